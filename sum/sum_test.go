package sum

import (
	"bytes"
	"math"
	"math/big"
	"testing"

	"cobbler/api"
)

// slow computes the checksum in another way: one large number, reduced once at the end.
func slow(s int, b []byte) int {
	n := big.NewInt(int64(s))
	for _, x := range b {
		n.Mul(n, big.NewInt(31))
		n.Add(n, big.NewInt(int64(x)))
	}
	return int(n.Mod(n, big.NewInt(65521)).Int64())
}

// sample returns n bytes that follow a short rule and differ from each other.
func sample(n int) []byte {
	b := make([]byte, n)
	for i := range b {
		b[i] = byte(i*i*7 + i*13 + 5)
	}
	return b
}

// mustOn returns On of a checksum that is in range.
func mustOn(t *testing.T, s int, b []byte) int {
	t.Helper()
	got, e := On(s, b)
	if e != api.OK {
		t.Fatalf("On(%d, %v): error %d", s, b, e)
	}
	return got
}

func TestOf(t *testing.T) { // P1.1
	for _, c := range []struct {
		b    []byte
		want int
	}{
		{nil, 1},
		{[]byte{}, 1},
		{[]byte{7}, 38},
		{[]byte{0}, 31},
		{[]byte{255}, 286},
		{[]byte{2, 3}, 1026},
		{[]byte{3, 2}, 1056},
		{[]byte{0, 0}, 961},
		{[]byte{37, 5, 17}, 65520},
		{[]byte{37, 5, 18}, 0},
		{[]byte{37, 5, 19}, 1},
		{[]byte{37, 5, 18, 9}, 9},
		{[]byte{255, 255, 255}, 20922},
		{[]byte("cobbler"), 43159},
	} {
		if got := Of(c.b); got != c.want {
			t.Errorf("Of(%v) = %d, want %d", c.b, got, c.want)
		}
	}
}

func TestOfLong(t *testing.T) { // P1.1
	for _, n := range []int{4, 5, 13, 14, 63, 64, 65, 400, 5000} {
		for _, b := range [][]byte{sample(n), make([]byte, n), bytes.Repeat([]byte{255}, n)} {
			if got, want := Of(b), slow(1, b); got != want {
				t.Errorf("Of of %d bytes from %d on = %d, want %d", n, b[0], got, want)
			}
		}
	}
}

func TestOn(t *testing.T) {
	for _, c := range []struct {
		s    int
		b    []byte
		want int
	}{
		{0, nil, 0},
		{0, []byte{}, 0},
		{65520, nil, 65520},
		{65520, []byte{}, 65520},
		{0, []byte{0, 0, 0}, 0},
		{0, []byte{255}, 255},
		{33, []byte{3}, 1026},
		{2113, []byte{17}, 65520},
		{2113, []byte{18}, 0},
		{2113, []byte{19}, 1},
		{65520, []byte{0}, 65490},
		{65520, []byte{30}, 65520},
		{65520, []byte{31}, 0},
		{65520, []byte{255}, 224},
	} {
		got, e := On(c.s, c.b)
		if got != c.want || e != api.OK {
			t.Errorf("On(%d, %v) = %d, %d, want %d, 0", c.s, c.b, got, e, c.want)
		}
	}
}

func TestOnEveryStart(t *testing.T) {
	b := []byte{200, 0, 255, 1}
	for s := 0; s <= 65520; s++ {
		got, e := On(s, nil)
		if got != s || e != api.OK {
			t.Fatalf("On(%d, nil) = %d, %d, want %d, 0", s, got, e, s)
		}
		if got, want := mustOn(t, s, b), slow(s, b); got != want {
			t.Fatalf("On(%d, %v) = %d, want %d", s, b, got, want)
		}
	}
}

func TestOnOutOfRange(t *testing.T) { // P3: the other result is zero
	for _, s := range []int{-1, -2, -65520, -65521, 65521, 65522, 65535, 65536, 131042, math.MinInt, math.MaxInt} {
		for _, b := range [][]byte{nil, {}, {0}, {7, 9}} {
			if got, e := On(s, b); got != 0 || e != api.ErrRange {
				t.Errorf("On(%d, %v) = %d, %d, want 0, %d", s, b, got, e, api.ErrRange)
			}
		}
	}
}

func TestOnGoesOnWhereOfEnds(t *testing.T) {
	for _, b := range [][]byte{nil, {7}, {37, 5, 18, 9}, sample(130), bytes.Repeat([]byte{255}, 130)} {
		for i := 0; i <= len(b); i++ {
			if got, want := mustOn(t, Of(b[:i]), b[i:]), Of(b); got != want {
				t.Errorf("%d bytes, cut at %d: %d, want %d", len(b), i, got, want)
			}
		}
	}
}

func TestOneByteChanged(t *testing.T) { // P1.2
	for _, b := range [][]byte{{0}, {255}, make([]byte, 64), bytes.Repeat([]byte{255}, 64), sample(64), sample(300)} {
		changed := bytes.Clone(b)
		for i := range b {
			for x := range 256 {
				changed[i] = byte(x)
				same := byte(x) == b[i]
				if (Of(changed) == Of(b)) != same {
					t.Fatalf("%d bytes, byte %d from %d to %d: %d and %d", len(b), i, b[i], x, Of(b), Of(changed))
				}
				if (mustOn(t, 65520, changed) == mustOn(t, 65520, b)) != same {
					t.Fatalf("On: %d bytes, byte %d from %d to %d: no change", len(b), i, b[i], x)
				}
			}
			changed[i] = b[i]
		}
	}
}

func TestOnlyArgumentsCount(t *testing.T) { // P1
	b := sample(64)
	of, on := Of(b), mustOn(t, 1000, b)
	Of([]byte{1, 2, 3})
	On(5, []byte{4})
	On(-1, b)
	roomy := append(make([]byte, 0, 500), b...)
	for _, l := range [][]byte{b, bytes.Clone(b), roomy} {
		if Of(l) != of || mustOn(t, 1000, l) != on {
			t.Errorf("the same bytes: %d, %d, want %d, %d", Of(l), mustOn(t, 1000, l), of, on)
		}
	}
}

func TestArgumentsAreOnlyRead(t *testing.T) { // P2
	room := sample(100)
	before := bytes.Clone(room)
	for _, n := range []int{0, 1, 64, 100} {
		Of(room[:n])
		On(3, room[:n])
		On(65521, room[:n])
		if !bytes.Equal(room, before) {
			t.Fatalf("the first %d bytes were given, and the bytes have changed", n)
		}
	}
}
