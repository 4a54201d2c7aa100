package delta

import (
	"bytes"
	"math"
	"math/big"
	"slices"
	"strings"
	"testing"

	"cobbler/api"
)

// put returns a step that inserts text.
func put(text string) api.Op { return api.Op{Data: []byte(text)} }

// take returns a step that copies n bytes from at on.
func take(at, n int) api.Op { return api.Op{At: at, Len: n} }

func steps(l ...api.Op) []api.Op { return l }

// times returns a list of n such steps.
func times(n int, o api.Op) []api.Op { return slices.Repeat([]api.Op{o}, n) }

// letters returns n times the same letter.
func letters(n int) string { return strings.Repeat("a", n) }

// rising returns n bytes that all differ; the first one is start.
func rising(n int, start byte) []byte {
	b := make([]byte, n)
	for i := range b {
		b[i] = start + byte(i)
	}
	return b
}

// mixed returns n bytes out of the first few letters; they look random and are the same each time.
func mixed(n int, few, seed uint32) []byte {
	b := make([]byte, n)
	for i := range b {
		seed = seed*1664525 + 1013904223
		b[i] = 'a' + byte(seed>>16%few)
	}
	return b
}

// texts returns every list of at most n bytes out of those given.
func texts(n int, of string) [][]byte {
	l := [][]byte{nil}
	for i := 0; i < len(l); i++ {
		if len(l[i]) == n {
			continue
		}
		for _, x := range []byte(of) {
			l = append(l, append(bytes.Clone(l[i]), x))
		}
	}
	return l
}

// cloned returns the steps with Data of their own.
func cloned(l []api.Op) []api.Op {
	c := slices.Clone(l)
	for i := range c {
		c[i].Data = bytes.Clone(c[i].Data)
	}
	return c
}

// plain says whether two lists of steps agree, field by field.
func plain(a, b []api.Op) bool {
	if len(a) != len(b) {
		return false
	}
	for i := range a {
		if a[i].At != b[i].At || a[i].Len != b[i].Len || string(a[i].Data) != string(b[i].Data) {
			return false
		}
	}
	return true
}

// slowCheck goes through the errors of P4.1 one by one, with numbers of any size.
func slowCheck(l []api.Op, old, size int) api.Errno {
	if len(l) > 40 || old < 0 || old > 64 || size < 0 || size > 64 {
		return api.ErrMany
	}
	made := big.NewInt(0)
	for _, o := range l {
		at, n := big.NewInt(int64(o.At)), big.NewInt(int64(o.Len))
		if o.Len == 0 {
			if o.At != 0 {
				return api.ErrForm
			}
			if len(o.Data) < 1 || len(o.Data) > 64 {
				return api.ErrForm
			}
			n.SetInt64(int64(len(o.Data)))
		} else {
			if len(o.Data) > 0 {
				return api.ErrForm
			}
			if n.Sign() < 0 || at.Sign() < 0 {
				return api.ErrRange
			}
			if at.Add(at, n).Cmp(big.NewInt(int64(old))) > 0 {
				return api.ErrRange
			}
		}
		if made.Add(made, n).Cmp(big.NewInt(int64(size))) > 0 {
			return api.ErrMany
		}
	}
	if made.Cmp(big.NewInt(int64(size))) != 0 {
		return api.ErrForm
	}
	return api.OK
}

// slowDiff looks for ever shorter starts of b, and unites inserted bytes afterwards.
func slowDiff(old, b []byte) []api.Op {
	var l []api.Op
	for len(b) > 0 {
		o := api.Op{Data: b[:1]}
		for n := len(b); n >= 4; n-- {
			if at := bytes.Index(old, b[:n]); at >= 0 {
				o = take(at, n)
				break
			}
		}
		b = b[max(o.Len, 1):]
		if last := len(l) - 1; o.Len == 0 && last >= 0 && l[last].Len == 0 {
			l[last] = put(string(l[last].Data) + string(o.Data))
		} else {
			l = append(l, o)
		}
	}
	return l
}

// slowApply writes the new image byte by byte.
func slowApply(old []byte, l []api.Op) []byte {
	var b []byte
	for _, o := range l {
		if o.Len == 0 {
			b = append(b, o.Data...)
		}
		for i := range o.Len {
			b = append(b, old[o.At+i])
		}
	}
	return b
}

type verdict struct {
	l         []api.Op
	old, size int
	want      api.Errno
}

// checkVerdicts tries Check, and Apply where there may be an image of old bytes.
func checkVerdicts(t *testing.T, l []verdict) {
	t.Helper()
	for i, c := range l {
		if e := Check(c.l, c.old, c.size); e != c.want {
			t.Errorf("%d: Check(%v, %d, %d) = %d, want %d", i, c.l, c.old, c.size, e, c.want)
		}
		if c.old < 0 || c.old > 1000 {
			continue
		}
		b, e := Apply(rising(c.old, 7), c.l, c.size)
		if e != c.want {
			t.Errorf("%d: Apply of %v to %d bytes, for %d: error %d, want %d", i, c.l, c.old, c.size, e, c.want)
		}
		if e != api.OK && len(b) != 0 {
			t.Errorf("%d: an error, and yet an image: %v", i, b)
		}
		if e == api.OK && !bytes.Equal(b, slowApply(rising(c.old, 7), c.l)) {
			t.Errorf("%d: Apply of %v to %d bytes: %v", i, c.l, c.old, b)
		}
	}
}

// checkDiff compares Diff with slowDiff, and has the delta checked and applied.
func checkDiff(t *testing.T, old, b []byte) {
	t.Helper()
	l, e := Diff(old, b)
	if want := slowDiff(old, b); e != api.OK || !plain(l, want) {
		t.Fatalf("Diff(%q, %q) = %v, %d, want %v, 0", old, b, l, e, want)
	}
	if e := Check(l, len(old), len(b)); e != api.OK {
		t.Fatalf("Diff(%q, %q) = %v, and Check of it is %d", old, b, l, e)
	}
	if got, e := Apply(old, l, len(b)); e != api.OK || !bytes.Equal(got, b) {
		t.Fatalf("Apply of Diff(%q, %q) = %q, %d", old, b, got, e)
	}
}

func TestCheckValid(t *testing.T) { // P4.1
	checkVerdicts(t, []verdict{
		{steps(put("x"), take(4, 4), take(0, 4)), 8, 9, api.OK},
		{steps(put("x")), 0, 1, api.OK},
		{steps(put("\x00")), 8, 1, api.OK},
		{steps(put("xyz")), 8, 3, api.OK},
		{steps(take(0, 1)), 1, 1, api.OK},
		{steps(take(3, 1)), 8, 1, api.OK}, // a copy may be shorter than api.MinMatch
		{steps(take(0, 8), take(0, 8)), 8, 16, api.OK},
		{steps(take(4, 4), take(2, 4), take(4, 4)), 8, 12, api.OK}, // copies may overlap and go back
		{steps(put("x"), put("y")), 8, 2, api.OK},                  // and needn't be united
		{steps(take(0, 1), take(1, 1)), 8, 2, api.OK},
		{steps(api.Op{Len: 2, Data: []byte{}}), 8, 2, api.OK},
	})
}

func TestCheckEdges(t *testing.T) { // P4.1
	checkVerdicts(t, []verdict{
		{nil, 0, 0, api.OK},
		{nil, 64, 0, api.OK},
		{steps(), 8, 0, api.OK},
		{nil, 8, 1, api.ErrForm},
		{nil, 0, 64, api.ErrForm},
		{times(40, put("x")), 0, 40, api.OK},
		{times(40, take(7, 1)), 8, 40, api.OK},
		{times(41, put("x")), 0, 41, api.ErrMany},
		{times(41, take(7, 1)), 8, 41, api.ErrMany},
		{times(41, api.Op{}), 8, 0, api.ErrMany},
		{times(1000, put("x")), 8, 64, api.ErrMany},
		{steps(put(letters(64))), 0, 64, api.OK},
		{steps(put(letters(63)), put("x")), 64, 64, api.OK},
		{steps(put(letters(65))), 0, 64, api.ErrForm},
		{steps(put(letters(1000))), 0, 64, api.ErrForm},
		{steps(take(0, 64)), 64, 64, api.OK},
		{steps(take(0, 64)), 63, 64, api.ErrRange},
		{steps(take(63, 1)), 64, 1, api.OK},
		{steps(take(64, 1)), 64, 1, api.ErrRange},
		{steps(take(5, 3)), 8, 3, api.OK}, // At plus Len is old
		{steps(take(5, 4)), 8, 4, api.ErrRange},
		{steps(take(6, 3)), 8, 3, api.ErrRange},
		{steps(take(8, 1)), 8, 1, api.ErrRange},
		{steps(take(9, 1)), 8, 1, api.ErrRange},
		{steps(take(0, 1)), 0, 1, api.ErrRange},
		{steps(put(letters(32)), take(0, 32)), 32, 64, api.OK},
		{steps(put(letters(32)), take(0, 33)), 33, 64, api.ErrMany},
	})
}

func TestCheckSizes(t *testing.T) { // P4.1: old and size are from 0 to api.MaxImage
	for _, bad := range []int{-1, 65, 66, 1000, -64, math.MaxInt, math.MinInt} {
		for _, good := range []int{0, 1, 64} {
			checkVerdicts(t, []verdict{
				{nil, bad, good, api.ErrMany},
				{nil, good, bad, api.ErrMany},
				{nil, bad, bad, api.ErrMany},
				{steps(put("x")), bad, 1, api.ErrMany},
				{steps(put("x")), good, bad, api.ErrMany},
				{steps(api.Op{}), bad, good, api.ErrMany},
				{steps(api.Op{}), good, bad, api.ErrMany},
				{steps(take(-1, -1)), bad, bad, api.ErrMany},
			})
		}
	}
	checkVerdicts(t, []verdict{{steps(put(letters(64)), put("x")), 0, 65, api.ErrMany}})
}

// wrongSteps are steps that no delta from 8 bytes has.
func wrongSteps() []verdict {
	one := []byte("x")
	return []verdict{
		{l: steps(api.Op{}), want: api.ErrForm},
		{l: steps(put(letters(65))), want: api.ErrForm},
		{l: steps(api.Op{Data: []byte{}}), want: api.ErrForm},
		{l: steps(api.Op{At: 1, Data: one}), want: api.ErrForm},
		{l: steps(api.Op{At: -1, Data: one}), want: api.ErrForm},
		{l: steps(api.Op{At: 9, Data: one}), want: api.ErrForm},
		{l: steps(api.Op{At: 1}), want: api.ErrForm},
		{l: steps(api.Op{At: -1}), want: api.ErrForm},
		{l: steps(api.Op{At: math.MaxInt, Data: one}), want: api.ErrForm},
		{l: steps(api.Op{At: math.MinInt, Data: one}), want: api.ErrForm},
		{l: steps(api.Op{Len: 1, Data: one}), want: api.ErrForm},
		{l: steps(api.Op{At: 1, Len: 1, Data: one}), want: api.ErrForm},
		{l: steps(api.Op{Len: 9, Data: one}), want: api.ErrForm},
		{l: steps(api.Op{Len: -1, Data: one}), want: api.ErrForm},
		{l: steps(api.Op{At: -1, Len: 1, Data: one}), want: api.ErrForm},
		{l: steps(api.Op{Len: math.MaxInt, Data: one}), want: api.ErrForm},
		{l: steps(api.Op{Len: math.MinInt, Data: one}), want: api.ErrForm},
		{l: steps(api.Op{At: math.MaxInt, Len: math.MaxInt, Data: one}), want: api.ErrForm},
		{l: steps(take(0, -1)), want: api.ErrRange},
		{l: steps(take(8, -1)), want: api.ErrRange},
		{l: steps(take(-1, 1)), want: api.ErrRange},
		{l: steps(take(-1, 9)), want: api.ErrRange},
		{l: steps(take(-1, -1)), want: api.ErrRange},
		{l: steps(take(0, 9)), want: api.ErrRange},
		{l: steps(take(8, 1)), want: api.ErrRange},
		{l: steps(take(9, 1)), want: api.ErrRange},
		{l: steps(take(9, -1)), want: api.ErrRange},
		{l: steps(take(math.MaxInt, 1)), want: api.ErrRange},
		{l: steps(take(1, math.MaxInt)), want: api.ErrRange},
		{l: steps(take(0, math.MaxInt)), want: api.ErrRange},
		{l: steps(take(math.MaxInt, math.MaxInt)), want: api.ErrRange},
		{l: steps(take(math.MinInt, 1)), want: api.ErrRange},
		{l: steps(take(1, math.MinInt)), want: api.ErrRange},
		{l: steps(take(0, math.MinInt)), want: api.ErrRange},
		{l: steps(take(math.MinInt, math.MinInt)), want: api.ErrRange},
		{l: steps(take(math.MinInt, math.MaxInt)), want: api.ErrRange},
		{l: steps(take(math.MaxInt, math.MinInt)), want: api.ErrRange},
	}
}

func TestCheckWrongSteps(t *testing.T) { // P4.1, P3: at the first step and at a later one; before the sizes that follow
	before := [][]api.Op{nil, steps(put("x")), steps(take(0, 8)), times(39, put("x"))}
	after := [][]api.Op{nil, steps(put("x")), steps(api.Op{}), steps(take(-1, 1))}
	for _, w := range wrongSteps() {
		for _, x := range before {
			for _, y := range after {
				l := slices.Concat(x, w.l, y)
				made := len(slowApply(rising(8, 0), x))
				for _, size := range []int{made, made + 1, 64} {
					want := w.want
					if len(l) > 40 {
						want = api.ErrMany
					}
					checkVerdicts(t, []verdict{{l, 8, size, want}})
				}
			}
		}
	}
}

func TestCheckTooManyBytes(t *testing.T) { // P4.1
	checkVerdicts(t, []verdict{
		{steps(put("xy")), 8, 1, api.ErrMany},
		{steps(put("x")), 8, 0, api.ErrMany},
		{steps(take(0, 2)), 8, 1, api.ErrMany},
		{steps(take(0, 1)), 8, 0, api.ErrMany},
		{steps(put("x"), take(4, 4), take(0, 4)), 8, 8, api.ErrMany},
		{steps(put("x"), put("y"), put("z")), 8, 2, api.ErrMany},
		{steps(take(0, 8), take(0, 8)), 8, 15, api.ErrMany},
		{times(40, put("xy")), 8, 64, api.ErrMany},
		{times(40, take(0, 64)), 64, 64, api.ErrMany},
		{times(2, put(letters(64))), 64, 64, api.ErrMany},
	})
}

func TestCheckTooFewBytes(t *testing.T) { // P4.1
	checkVerdicts(t, []verdict{
		{steps(put("x")), 8, 2, api.ErrForm},
		{steps(put("x")), 8, 64, api.ErrForm},
		{steps(take(0, 1)), 8, 2, api.ErrForm},
		{steps(put("x"), take(4, 4), take(0, 4)), 8, 10, api.ErrForm},
		{times(40, put("x")), 8, 41, api.ErrForm},
		{steps(put(letters(63))), 8, 64, api.ErrForm},
	})
}

func TestCheckFirstError(t *testing.T) { // P4.1, P3: several at once
	form, far, long := api.Op{}, take(0, 9), put("xyz")
	checkVerdicts(t, []verdict{
		{steps(form, far), 8, 2, api.ErrForm},
		{steps(far, form), 8, 2, api.ErrRange},
		{steps(long, form), 8, 2, api.ErrMany}, // the bytes are counted after every step
		{steps(long, far), 8, 2, api.ErrMany},
		{steps(form, long), 8, 2, api.ErrForm},
		{steps(far, long), 8, 2, api.ErrRange},
		{steps(put("x"), form), 8, 2, api.ErrForm},
		{steps(put("x"), far), 8, 2, api.ErrRange},
		{steps(take(0, 9)), 8, 8, api.ErrRange}, // one step is out of range, and makes too many
		{steps(take(-1, 9)), 8, 8, api.ErrRange},
		{steps(put(letters(65))), 8, 8, api.ErrForm},
		{steps(api.Op{Len: 9, Data: []byte("x")}), 8, 8, api.ErrForm},
		{steps(api.Op{At: -1, Len: -1, Data: []byte("x")}), 8, 0, api.ErrForm},
		{steps(take(0, -1), put("xyz")), 8, 2, api.ErrRange}, // a negative length takes nothing back
		{steps(put("xyz"), take(0, -1)), 8, 2, api.ErrMany},
		{times(41, form), 65, 2, api.ErrMany},
		{times(41, far), 8, 2, api.ErrMany},
	})
}

func TestCheckEveryShape(t *testing.T) { // P4.1; P1: no panic
	values := []int{0, 1, 2, 3, -1, math.MaxInt, math.MinInt, math.MaxInt - 1, math.MinInt + 1}
	var all []api.Op
	for _, at := range values {
		for _, n := range values {
			for _, data := range []string{"", "x", "xyz", letters(65)} {
				all = append(all, api.Op{At: at, Len: n, Data: []byte(data)})
			}
		}
	}
	try := func(l ...api.Op) {
		for _, old := range []int{0, 2, 3, 64, 65} {
			for _, size := range []int{0, 1, 2, 4, 64, -1} {
				if e, want := Check(l, old, size), slowCheck(l, old, size); e != want {
					t.Fatalf("Check(%v, %d, %d) = %d, want %d", l, old, size, e, want)
				}
			}
		}
	}
	for _, x := range all {
		try(x)
		for _, y := range all {
			try(x, y)
		}
	}
	for _, x := range all {
		try(put("x"), take(0, 1), x)
		try(put("x"), x, take(0, 1))
	}
}

func TestSame(t *testing.T) { // section 'Same'
	l := steps(put("x"), take(4, 4), take(0, 4))
	wrong := steps(api.Op{At: math.MaxInt, Len: math.MinInt, Data: []byte("xy")})
	for _, c := range []struct {
		a, b []api.Op
		want bool
	}{
		{nil, nil, true},
		{nil, steps(), true},
		{steps(), steps(), true},
		{l, l, true},
		{l, cloned(l), true},
		{wrong, cloned(wrong), true},
		{times(1000, put("x")), times(1000, put("x")), true},
		{steps(api.Op{Data: nil}), steps(api.Op{Data: []byte{}}), true},
		{steps(take(0, 4)), steps(api.Op{Len: 4, Data: []byte{}}), true},
		{steps(api.Op{}), nil, false},
		{steps(api.Op{}), steps(api.Op{}, api.Op{}), false},
		{l, l[:2], false},
		{l, l[1:], false},
		{l, steps(take(4, 4), put("x"), take(0, 4)), false},
		{steps(take(4, 4)), steps(take(5, 4)), false},
		{steps(take(4, 4)), steps(take(4, 5)), false},
		{steps(take(4, 5)), steps(take(5, 4)), false},
		{steps(take(1, 0)), steps(take(0, 1)), false},
		{steps(take(-1, 4)), steps(take(1, 4)), false},
		{steps(put("x")), steps(put("y")), false},
		{steps(put("x")), steps(put("xx")), false},
		{steps(put("xy")), steps(put("x"), put("y")), false}, // only what they make is the same
		{steps(take(0, 2)), steps(take(0, 1), take(1, 1)), false},
		{steps(put("x"), take(4, 4)), steps(put("x"), take(4, 3)), false}, // a later step
		{steps(put("x"), put("y")), steps(put("x"), put("z")), false},
		{steps(api.Op{Len: 1, Data: []byte("x")}), steps(api.Op{Len: 1}), false},
		{wrong, steps(api.Op{At: math.MaxInt, Len: math.MinInt, Data: []byte("xz")}), false},
		{wrong, steps(api.Op{At: math.MaxInt, Len: math.MinInt + 1, Data: []byte("xy")}), false},
	} {
		if got := Same(c.a, c.b); got != c.want {
			t.Errorf("Same(%v, %v) = %v", c.a, c.b, got)
		}
		if got := Same(c.b, c.a); got != c.want {
			t.Errorf("Same(%v, %v) = %v", c.b, c.a, got)
		}
	}
}

func TestDiff(t *testing.T) { // P4.2
	l := string(rising(64, 0))
	for _, c := range []struct {
		old, b string
		want   []api.Op
	}{
		{"abcdefgh", "xefghabcd", steps(put("x"), take(4, 4), take(0, 4))},
		{"abcdefgh", "abcxdefg", steps(put("abcx"), take(3, 4))}, // three bytes are not enough
		{"abcdefgh", "abcdxefgh", steps(take(0, 4), put("x"), take(4, 4))},
		{"abcdefgh", "efghxabcdy", steps(take(4, 4), put("x"), take(0, 4), put("y"))},
		{"abcdefgh", "xyzbcdefw", steps(put("xyz"), take(1, 5), put("w"))},
		{"abcd", "abcd", steps(take(0, 4))},
		{"abc", "abc", steps(put("abc"))}, // the same, and yet too short
		{"abcd", "abc", steps(put("abc"))},
		{"abcdefgh", "abcdefgh", steps(take(0, 8))},
		{"abcdefgh", "abcde", steps(take(0, 5))},
		{"abcdefgh", "fgh", steps(put("fgh"))},
		{"abcdefgh", "efgh", steps(take(4, 4))},
		{"abcdefgh", "xyzw", steps(put("xyzw"))},
		{"abcdefgh", "abcdabcd", steps(take(0, 4), take(0, 4))},
		{"abcdefgh", "abcdbcd", steps(take(0, 4), put("bcd"))},
		{"abcdyabcdz", "abcdz", steps(take(5, 5))},           // the longest
		{"abcdyabcdz", "abcdw", steps(take(0, 4), put("w"))}, // the first of several
		{"aaaaaa", "aaaaaaaaaa", steps(take(0, 6), take(0, 4))},
		{"aaaaaa", "aaaaaaaaa", steps(take(0, 6), put("aaa"))},
		{"abcdebcdef", "abcdef", steps(take(0, 5), put("f"))}, // no look ahead: b and bcdef would do, too
		{"", "abcd", steps(put("abcd"))},
		{"", "a", steps(put("a"))},
		{"abcd", "", nil},
		{"", "", nil},
		{"\x00\x00\x00\x00\xff", "\xff\x00\x00\x00\x00", steps(put("\xff"), take(0, 4))},
		{"", l, steps(put(l))},
		{l, "", nil},
		{l, l, steps(take(0, 64))},
		{l, l[1:] + l[:1], steps(take(1, 63), put("\x00"))},
		{l, l[60:] + l[:60], steps(take(60, 4), take(0, 60))},
		{l, l[61:] + l[:61], steps(put(l[61:]), take(0, 61))},
		{letters(64), strings.Repeat("b", 64), steps(put(strings.Repeat("b", 64)))},
		{"aaaa", letters(64), times(16, take(0, 4))},
		{"aaa", letters(64), steps(put(letters(64)))},
	} {
		got, e := Diff([]byte(c.old), []byte(c.b))
		if e != api.OK || !plain(got, c.want) {
			t.Errorf("Diff(%q, %q) = %v, %d, want %v, 0", c.old, c.b, got, e, c.want)
		}
		checkDiff(t, []byte(c.old), []byte(c.b))
	}
	for _, none := range [][]byte{nil, {}, make([]byte, 0, 5)} {
		checkDiff(t, none, none)
		checkDiff(t, none, []byte("abcd"))
		checkDiff(t, []byte("abcd"), none)
	}
}

func TestDiffManySteps(t *testing.T) { // P4.2: the most steps that a delta of Diff has; Check allows more
	b := []byte(strings.Repeat("aaaax", 13)[:64])
	l, e := Diff([]byte("aaaa"), b)
	if len(l) != 25 || e != api.OK {
		t.Errorf("%d steps, error %d, want 25, 0", len(l), e)
	}
	checkDiff(t, []byte("aaaa"), b)
}

func TestDiffTooLong(t *testing.T) { // P4.2; P3: no steps with it
	l := rising(1000, 0)
	for _, c := range [][2][]byte{
		{l[:65], nil},
		{l[:65], {}},
		{l[:65], l[:1]},
		{l[:65], l[:64]},
		{l, l[:64]},
		{nil, l[:65]},
		{l[:1], l[:65]},
		{l[:64], l[:65]},
		{l[:64], l},
		{l[:65], l[:65]},
		{l, l},
	} {
		if got, e := Diff(c[0], c[1]); len(got) != 0 || e != api.ErrMany {
			t.Errorf("Diff of %d and %d bytes = %v, %d, want none, %d", len(c[0]), len(c[1]), got, e, api.ErrMany)
		}
	}
}

func TestApply(t *testing.T) { // P4.2, section 'Apply'
	l := string(rising(64, 0))
	for _, c := range []struct {
		old  string
		l    []api.Op
		want string
	}{
		{"abcdefgh", steps(put("x"), take(4, 4), take(0, 4)), "xefghabcd"},
		{"abcdefgh", steps(take(0, 8)), "abcdefgh"},
		{"abcdefgh", steps(take(7, 1), take(0, 1)), "ha"},
		{"abcdefgh", steps(take(2, 3), put("xy"), take(2, 3)), "cdexycde"},
		{"abcdefgh", steps(put("x"), put("yz")), "xyz"},
		{"abcdefgh", nil, ""},
		{"", nil, ""},
		{"", steps(put("x")), "x"},
		{"a", times(40, take(0, 1)), letters(40)},
		{"", times(40, put("a")), letters(40)},
		{l, steps(take(0, 64)), l},
		{l, steps(take(32, 32), take(0, 32)), l[32:] + l[:32]},
		{l, steps(put(letters(64))), letters(64)},
		{"abcdefgh", steps(put("\x00\xff"), take(0, 1)), "\x00\xffa"},
	} {
		got, e := Apply([]byte(c.old), c.l, len(c.want))
		if string(got) != c.want || e != api.OK {
			t.Errorf("Apply(%q, %v) = %q, %d, want %q, 0", c.old, c.l, got, e, c.want)
		}
	}
}

func TestApplyRefuses(t *testing.T) { // section 'Apply'; P3: no image with it
	old := []byte("abcdefgh")
	l := steps(put("x"), take(4, 4), take(0, 4))
	for _, c := range []struct {
		old  []byte
		l    []api.Op
		size int
		want api.Errno
	}{
		{old, l, 8, api.ErrMany},
		{old, l, 10, api.ErrForm},
		{old, l, -1, api.ErrMany},
		{old, l, 65, api.ErrMany},
		{old, l, math.MaxInt, api.ErrMany},
		{old, l, math.MinInt, api.ErrMany},
		{old[:7], l, 9, api.ErrRange}, // the missing byte lies in the spare capacity
		{nil, l, 9, api.ErrRange},
		{make([]byte, 65), l, 9, api.ErrMany},
		{make([]byte, 65), nil, 0, api.ErrMany},
		{old, nil, 1, api.ErrForm},
		{old, times(41, put("x")), 41, api.ErrMany},
		{old, steps(put("x"), api.Op{}), 1, api.ErrForm},
		{old, steps(put("x"), take(8, 1)), 2, api.ErrRange},
	} {
		if b, e := Apply(c.old, c.l, c.size); len(b) != 0 || e != c.want {
			t.Errorf("Apply of %v to %d bytes, for %d = %v, %d, want none, %d", c.l, len(c.old), c.size, b, e, c.want)
		}
	}
}

func TestApplyOfDiff(t *testing.T) { // P4.2, P4.3: checkDiff has every delta applied
	short := texts(7, "ab")
	for _, old := range short {
		for _, b := range short {
			checkDiff(t, old, b)
		}
	}
	for seed := range uint32(3000) {
		few := 1 + seed%4
		old, b := mixed(int(seed*7%65), few, seed), mixed(int(seed*11%65), few, seed+90000)
		checkDiff(t, old, b)
		checkDiff(t, old, old)
		at := int(seed) % (len(old) + 1)
		turned := slices.Concat(old[at:], old[:at])
		checkDiff(t, old, turned)
		if len(turned) > 0 {
			turned[int(seed)*5%len(turned)]++
		}
		checkDiff(t, old, turned)
	}
	for n := range 65 {
		checkDiff(t, rising(64, 0), rising(n, 30))
		checkDiff(t, rising(n, 30), rising(64, 0))
	}
}

func TestOnlyArgumentsCount(t *testing.T) { // P1: not what was called before, not what lies behind the lists
	old, b := []byte("abcdefgh"), []byte("xefghabcd")
	want := steps(put("x"), take(4, 4), take(0, 4))
	Diff([]byte("zzzzzz"), []byte("zzzzyy"))
	Apply([]byte("zzzzzz"), want, 9)
	roomyOld := append(make([]byte, 0, 100), old...)
	roomyB := append(make([]byte, 0, 100), b...)
	copy(roomyOld[:30][len(old):], "xefghabcde")
	copy(roomyB[:30][len(b):], "efgh")
	roomySteps := append(make([]api.Op, 0, 100), want...)
	roomySteps[:10][3] = put("w")
	for _, o := range [][]byte{old, bytes.Clone(old), roomyOld} {
		for _, n := range [][]byte{b, bytes.Clone(b), roomyB} {
			if l, e := Diff(o, n); !plain(l, want) || e != api.OK {
				t.Errorf("Diff of the same bytes: %v, %d", l, e)
			}
		}
		for _, l := range [][]api.Op{want, cloned(want), roomySteps} {
			if n, e := Apply(o, l, 9); !bytes.Equal(n, b) || e != api.OK {
				t.Errorf("Apply of the same steps: %q, %d", n, e)
			}
			if e := Check(l, 8, 9); e != api.OK {
				t.Errorf("Check of the same steps: %d", e)
			}
			if !Same(l, want) {
				t.Errorf("Same of the same steps: false")
			}
		}
	}
}

func TestArgumentsAreOnlyRead(t *testing.T) { // P2: also what lies behind them
	old, b := mixed(80, 2, 1), mixed(80, 2, 2)
	data := mixed(80, 3, 3)
	l := times(50, take(0, 1))
	for i := range l {
		if i%2 == 0 {
			l[i] = api.Op{Data: data[i : i+1]}
		}
	}
	wasOld, wasB, wasData, wasL := bytes.Clone(old), bytes.Clone(b), bytes.Clone(data), cloned(l)
	for n := range len(old) + 1 {
		m := min(n, len(l))
		Diff(old[:n], b[:n])
		Diff(old[n:], b[:n])
		for _, size := range []int{-1, 0, m - 1, m, m + 1} {
			Check(l[:m], n, size)
			Apply(old[:n], l[:m], size)
		}
		Same(l[:m], l[len(l)-m:])
		if !bytes.Equal(old, wasOld) || !bytes.Equal(b, wasB) || !bytes.Equal(data, wasData) || !plain(l, wasL) {
			t.Fatalf("%d bytes were given, and the arguments have changed", n)
		}
	}
}

// spoil writes into every byte of a list and of its spare capacity.
func spoil(b []byte) {
	b = b[:cap(b)]
	for i := range b {
		b[i] ^= 0xff
	}
}

func TestDiffIsNew(t *testing.T) { // P2: Data shares no memory with the arguments, nor with other Data
	old, b := []byte("abcdefgh"), []byte("xyabcdzwefghuv")
	wasOld, wasB := bytes.Clone(old), bytes.Clone(b)
	want := steps(put("xy"), take(0, 4), put("zw"), take(4, 4), put("uv"))
	l, _ := Diff(old, b)
	again, _ := Diff(old, b)
	for i := range l {
		spoil(l[i].Data)
		l[i].Data = bytes.Clone(want[i].Data)
		if !plain(l, want) || !plain(again, want) {
			t.Errorf("Data of step %d shares memory with other Data", i)
		}
	}
	if !bytes.Equal(old, wasOld) || !bytes.Equal(b, wasB) {
		t.Errorf("Data shares memory with an argument")
	}
	spoil(old)
	spoil(b)
	if !plain(again, want) {
		t.Errorf("the argument was kept: %v", again)
	}
}

func TestApplyIsNew(t *testing.T) { // P2: the image shares no memory with the arguments
	for _, l := range [][]api.Op{steps(take(0, 8)), steps(put("abcdefgh")), steps(put("abcd"), take(4, 4))} {
		old := []byte("abcdefgh")
		was := cloned(l)
		b, _ := Apply(old, l, 8)
		again, _ := Apply(old, l, 8)
		spoil(b)
		if string(old) != "abcdefgh" || !plain(l, was) || string(again) != "abcdefgh" {
			t.Errorf("the image of %v shares memory", was)
		}
		spoil(old)
		for i := range l {
			spoil(l[i].Data)
		}
		if string(again) != "abcdefgh" {
			t.Errorf("the arguments %v were kept: %q", was, again)
		}
	}
}
