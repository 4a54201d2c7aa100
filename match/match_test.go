package match

import (
	"bytes"
	"math"
	"strings"
	"testing"

	"cobbler/api"
)

// slow looks for ever shorter strings of b in all of old.
func slow(old, b []byte, at int) (int, int) {
	for end := len(b); end > at; end-- {
		if i := bytes.Index(old, b[at:end]); i >= 0 {
			return i, end - at
		}
	}
	return 0, 0
}

// checkLongest compares Longest with slow at every place in b.
func checkLongest(t *testing.T, old, b []byte) {
	t.Helper()
	for at := range len(b) + 1 {
		start, length, e := Longest(old, b, at)
		wantStart, wantLength := slow(old, b, at)
		if start != wantStart || length != wantLength || e != api.OK {
			t.Fatalf("Longest(%v, %v, %d) = %d, %d, %d, want %d, %d, 0", old, b, at, start, length, e, wantStart, wantLength)
		}
	}
}

type search struct {
	old, b        string
	at            int
	start, length int
}

func checkFound(t *testing.T, l []search) {
	t.Helper()
	for _, c := range l {
		start, length, e := Longest([]byte(c.old), []byte(c.b), c.at)
		if start != c.start || length != c.length || e != api.OK {
			t.Errorf("Longest(%q, %q, %d) = %d, %d, %d, want %d, %d, 0", c.old, c.b, c.at, start, length, e, c.start, c.length)
		}
	}
}

type refusal struct {
	old, b []byte
	at     int
	want   api.Errno
}

func checkRefused(t *testing.T, l []refusal) {
	t.Helper()
	for _, c := range l {
		if start, length, e := Longest(c.old, c.b, c.at); start != 0 || length != 0 || e != c.want {
			t.Errorf("Longest of %d and %d bytes at %d = %d, %d, %d, want 0, 0, %d", len(c.old), len(c.b), c.at, start, length, e, c.want)
		}
	}
}

// texts returns every list of at most n bytes out of those given.
func texts(n int, of []byte) [][]byte {
	l := [][]byte{nil}
	for i := 0; i < len(l); i++ {
		if len(l[i]) == n {
			continue
		}
		for _, x := range of {
			l = append(l, append(bytes.Clone(l[i]), x))
		}
	}
	return l
}

// mixed returns n bytes out of the first few letters; they look random and are the same each time.
func mixed(n int, letters, seed uint32) []byte {
	b := make([]byte, n)
	for i := range b {
		seed = seed*1664525 + 1013904223
		b[i] = 'a' + byte(seed>>16%letters)
	}
	return b
}

// rising returns n bytes that all differ; the first one is start.
func rising(n int, start byte) []byte {
	b := make([]byte, n)
	for i := range b {
		b[i] = start + byte(i)
	}
	return b
}

func TestLongest(t *testing.T) { // P3.1
	checkFound(t, []search{
		{"abcd", "xbc", 1, 1, 2},
		{"abcd", "abcd", 0, 0, 4},
		{"abcd", "abcd", 2, 2, 2},
		{"abcd", "abcd", 3, 3, 1},
		{"abcd", "xxd", 2, 3, 1},      // the last byte of old
		{"abcd", "cdab", 0, 2, 2},     // old ends
		{"abcd", "bc", 0, 1, 2},       // b ends
		{"abcd", "bcx", 0, 1, 2},      // neither ends
		{"abcd", "abab", 2, 0, 2},     // bytes before at don't count
		{"bcd", "abcd", 0, 0, 0},      // a match must start at at, not behind it
		{"abxabc", "abc", 0, 3, 3},    // a longer one behind a shorter one
		{"abcxab", "abc", 0, 0, 3},    // and before it
		{"abxabcxab", "abc", 0, 3, 3}, // and between two of them
		{"axabxabc", "abc", 0, 5, 3},  // ever longer ones
		{"aab", "ab", 0, 1, 2},        // it overlaps a shorter one
		{"aaaab", "aab", 0, 2, 3},
		{"\x00\xff\x80", "\xff\x80", 0, 1, 2},
		{"\x00", "\x00", 0, 0, 1},
		{"a\x00", "\x00", 0, 1, 1},
	})
}

func TestFirstOfSeveral(t *testing.T) { // P3.1
	checkFound(t, []search{
		{"xabcab", "zabd", 1, 1, 2},
		{"abab", "ab", 0, 0, 2},
		{"aaaa", "a", 0, 0, 1},
		{"aaaa", "aa", 0, 0, 2},
		{"aaaa", "aaaaaa", 0, 0, 4},
		{"xabyabzab", "ab", 0, 1, 2},
		{"xaabyaab", "aab", 0, 1, 3},
		{"axabyabz", "abc", 0, 2, 2}, // a shorter one comes before both
		{"xabyabza", "abc", 0, 1, 2}, // and behind them
		{"abcabd", "abx", 0, 0, 2},   // they go on in different ways
		{"abdabc", "abx", 0, 0, 2},
		{"xay" + strings.Repeat("a", 20), "ab", 0, 1, 1},
	})
}

func TestNothingMatches(t *testing.T) { // P3.1
	checkFound(t, []search{
		{"x", "y", 0, 0, 0},
		{"abcd", "xyz", 0, 0, 0},
		{"abcd", "xabcd", 0, 0, 0},
		{"abcd", "abcdx", 4, 0, 0},
		{"aaaa", "\x00", 0, 0, 0},
		{strings.Repeat("a", 64), strings.Repeat("b", 64), 0, 0, 0},
		{strings.Repeat("a", 64), strings.Repeat("a", 63) + "b", 63, 0, 0},
	})
}

func TestNoBytesToMatch(t *testing.T) { // P3.1: at may be the length of b; old and b may be empty
	checkFound(t, []search{
		{"x", "x", 1, 0, 0},
		{"abcd", "abcd", 4, 0, 0},
		{"abcd", "", 0, 0, 0},
		{"", "abcd", 0, 0, 0},
		{"", "abcd", 3, 0, 0},
		{"", "abcd", 4, 0, 0},
		{"", "", 0, 0, 0},
		{strings.Repeat("a", 64), strings.Repeat("a", 64), 64, 0, 0},
		{strings.Repeat("a", 64), "", 0, 0, 0},
		{"", strings.Repeat("a", 64), 0, 0, 0},
		{"", strings.Repeat("a", 64), 64, 0, 0},
	})
	for _, none := range [][]byte{nil, {}, make([]byte, 0, 5)} {
		checkLongest(t, none, none)
		checkLongest(t, none, []byte("ab"))
		checkLongest(t, []byte("ab"), none)
	}
}

func TestFullImages(t *testing.T) { // P3.1: old and b may have api.MaxImage bytes
	a, l := strings.Repeat("a", 64), string(rising(64, 0))
	checkFound(t, []search{
		{a, a, 0, 0, 64},
		{a, a, 1, 0, 63},
		{a, a, 63, 0, 1},
		{a, "a", 0, 0, 1},
		{"a", a, 0, 0, 1},
		{"a", a, 63, 0, 1},
		{l, l, 0, 0, 64},
		{l, l, 1, 1, 63},
		{l, l, 63, 63, 1},
		{l, l[63:], 0, 63, 1},
		{l, l[32:] + l[:32], 0, 32, 32},
		{l, l[32:] + l[:32], 32, 0, 32},
		{a[:63] + "b", a[:63] + "b", 60, 60, 4},
		{a[:63] + "b", a[:63] + "c", 60, 0, 3},
	})
	for n := range 65 {
		checkLongest(t, []byte(a), rising(n, 'a'-20))
		checkLongest(t, rising(n, 20), []byte(l))
		checkLongest(t, []byte(l), rising(n, 20))
	}
}

func TestTooLong(t *testing.T) { // P3.1; P3: the other results are zero
	l := rising(1000, 0)
	checkRefused(t, []refusal{
		{l[:65], nil, 0, api.ErrMany},
		{l[:65], l[:1], 0, api.ErrMany},
		{l[:65], l[:64], 64, api.ErrMany},
		{l, l[:64], 0, api.ErrMany},
		{nil, l[:65], 0, api.ErrMany},
		{l[:1], l[:65], 0, api.ErrMany},
		{l[:64], l[:65], 0, api.ErrMany},
		{l[:64], l[:65], 64, api.ErrMany}, // only one byte is looked for
		{l[:64], l[:65], 65, api.ErrMany}, // none
		{l[:64], l, 0, api.ErrMany},
		{l[:65], l[:65], 0, api.ErrMany},
		{l, l, 1000, api.ErrMany},
	})
}

func TestNoSuchPlace(t *testing.T) { // P3.1; P3: the other results are zero
	l := rising(64, 0)
	for _, old := range [][]byte{nil, {}, l[:1], l} {
		checkRefused(t, []refusal{
			{old, nil, 1, api.ErrWho},
			{old, nil, -1, api.ErrWho},
			{old, []byte{}, 1, api.ErrWho},
			{old, []byte{}, -1, api.ErrWho},
			{old, l[:1], 2, api.ErrWho},
			{old, l[:1], -1, api.ErrWho},
			{old, l[:30], 31, api.ErrWho},
			{old, l[:30], 64, api.ErrWho}, // in the spare capacity of b
			{old, l, 65, api.ErrWho},
			{old, l, -1, api.ErrWho},
			{old, l, -64, api.ErrWho},
			{old, l, math.MaxInt, api.ErrWho},
			{old, l, math.MinInt, api.ErrWho},
		})
	}
}

func TestFirstError(t *testing.T) { // P3.1, P3: several at once
	l := rising(65, 0)
	for _, at := range []int{-1, 66, math.MaxInt, math.MinInt} {
		checkRefused(t, []refusal{
			{l, nil, at, api.ErrMany},
			{l, l[:64], at, api.ErrMany},
			{nil, l, at, api.ErrMany},
			{l[:64], l, at, api.ErrMany},
			{l, l, at, api.ErrMany},
		})
	}
}

func TestEveryShape(t *testing.T) { // P3.1
	short := texts(6, []byte{0, 255})
	for _, old := range short {
		for _, b := range short {
			checkLongest(t, old, b)
		}
	}
	for _, old := range texts(5, []byte("abc")) {
		for _, b := range texts(3, []byte("abc")) {
			checkLongest(t, old, b)
		}
	}
	for seed := range uint32(2000) {
		letters := 1 + seed%5
		old, b := mixed(int(seed*7%65), letters, seed), mixed(int(seed*11%65), letters, seed+90000)
		checkLongest(t, old, b)
		checkLongest(t, old, old)
	}
}

func TestAnyPlace(t *testing.T) { // P1: no panic
	for n := range 67 {
		for m := range 67 {
			for at := -3; at < 70; at++ {
				_, _, e := Longest(rising(n, 0), rising(m, 30), at)
				want := api.OK
				switch {
				case n > 64 || m > 64:
					want = api.ErrMany
				case at < 0 || at > m:
					want = api.ErrWho
				}
				if e != want {
					t.Fatalf("Longest of %d and %d bytes at %d: error %d, want %d", n, m, at, e, want)
				}
			}
		}
	}
}

func TestOnlyArgumentsCount(t *testing.T) { // P1: not what was called before, not what lies behind the lists
	old, b := []byte("abcabcd"), []byte("xabcd")
	Longest([]byte("zzzzzz"), []byte("zzz"), 0)
	Longest(old, b, -1)
	roomyOld := append(make([]byte, 0, 100), old...)
	roomyB := append(make([]byte, 0, 100), b...)
	copy(roomyOld[:20][len(old):], "xabcdefgh")
	copy(roomyB[:20][len(b):], "efgh")
	for _, o := range [][]byte{old, bytes.Clone(old), roomyOld} {
		for _, n := range [][]byte{b, bytes.Clone(b), roomyB} {
			if start, length, e := Longest(o, n, 1); start != 3 || length != 4 || e != api.OK {
				t.Errorf("the same bytes: %d, %d, %d, want 3, 4, 0", start, length, e)
			}
		}
	}
}

func TestOneListAsBoth(t *testing.T) { // P2: arguments may share memory with each other
	room := mixed(64, 2, 3)
	for i := range len(room) + 1 {
		checkLongest(t, room[:i], room[i:])
		checkLongest(t, room[i:], room[:i])
		checkLongest(t, room, room[i:])
	}
}

func TestArgumentsAreOnlyRead(t *testing.T) { // P2: also what lies behind them
	old, b := mixed(80, 2, 1), mixed(80, 2, 2)
	wasOld, wasB := bytes.Clone(old), bytes.Clone(b)
	for n := range len(old) + 1 {
		for _, at := range []int{-1, 0, n / 2, n, n + 1} {
			Longest(old[:n], b[:n], at)
			Longest(old[n:], b[:n], at)
			if !bytes.Equal(old, wasOld) || !bytes.Equal(b, wasB) {
				t.Fatalf("%d bytes were given, and the bytes have changed", n)
			}
		}
	}
}
