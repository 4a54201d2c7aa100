package pack

import (
	"bytes"
	"math"
	"testing"

	"cobbler/api"
)

// run returns n times x.
func run(n int, x byte) []byte { return bytes.Repeat([]byte{x}, n) }

// mixed returns n bytes of which no two neighbours are equal; the first one is start.
func mixed(n int, start byte) []byte {
	b := make([]byte, n)
	for i := range b {
		b[i] = start + byte(i)
	}
	return b
}

// join returns all the bytes as one list.
func join(l ...[]byte) []byte { return bytes.Join(l, nil) }

// numbers returns n numbers that look random and are the same each time.
func numbers(n int, seed uint32) []uint32 {
	l := make([]uint32, n)
	for i := range l {
		seed = seed*1664525 + 1013904223
		l[i] = seed >> 8
	}
	return l
}

// lumpy returns bytes in many short and some long runs, and some stretches without any.
func lumpy(seed uint32) []byte {
	var b []byte
	for _, x := range numbers(40, seed) {
		switch kind, n := x%16, int(x>>4%300); kind {
		case 0:
			b = append(b, run(n, byte(x>>16)%3)...)
		case 1:
			b = append(b, mixed(n, byte(x>>16))...)
		default:
			b = append(b, run(1+int(kind%4), byte(x>>16)%3)...)
		}
	}
	return b
}

// plains are bytes of all shapes.
func plains() [][]byte {
	l := [][]byte{nil, {}, {7}, mixed(127, 9), run(127, 9), mixed(700, 9), mixed(700, 128), run(700, 0), run(700, 255)}
	for seed := range uint32(200) {
		l = append(l, lumpy(seed))
	}
	return l
}

// eachText calls f with every list of at most n bytes out of those given.
func eachText(n int, of []byte, f func([]byte)) {
	texts := [][]byte{nil}
	for len(texts) > 0 {
		b := texts[0]
		texts = texts[1:]
		f(b)
		if len(b) == n {
			continue
		}
		for _, x := range of {
			texts = append(texts, append(bytes.Clone(b), x))
		}
	}
}

func startsRun(b []byte) bool { return len(b) >= 3 && b[0] == b[1] && b[1] == b[2] }

// wrongIn says what P2.1 forbids in packed. Only one encoding of plain has nothing wrong in it.
func wrongIn(plain, packed []byte) string {
	short := false // the group before was one of fewer than 127 literals
	for len(packed) > 0 {
		isRun, n := packed[0] >= 128, int(packed[0]&127)
		packed = packed[1:]
		switch {
		case n > len(plain):
			return "more bytes than there were"
		case isRun && (n < 3 || len(packed) < 1 || !bytes.Equal(run(n, packed[0]), plain[:n])):
			return "no such run"
		case isRun && n < 127 && n < len(plain) && plain[n] == plain[0]:
			return "the run goes on"
		case !isRun && (n == 0 || len(packed) < n || !bytes.Equal(packed[:n], plain[:n])):
			return "no such literals"
		case !isRun && short:
			return "literals are divided"
		}
		for i := 0; i < n && !isRun; i++ {
			if startsRun(plain[i:]) {
				return "a run among literals"
			}
		}
		short = !isRun && n < 127
		plain = plain[n:]
		if isRun {
			n = 1
		}
		packed = packed[n:]
	}
	if len(plain) > 0 {
		return "fewer bytes than there were"
	}
	return ""
}

// slowUnpack unpacks byte by byte, and counts before it checks.
func slowUnpack(b []byte, most int) ([]byte, api.Errno) {
	var out []byte
	for i := 0; i < len(b); {
		n := int(b[i]) & 127
		at, step, last := i+1, 1, i+n
		if b[i] > 127 {
			step, last = 0, i+1
		}
		if n == 0 {
			return nil, api.ErrForm
		}
		if last >= len(b) {
			return nil, api.ErrTorn
		}
		for range n {
			out = append(out, b[at])
			at += step
		}
		if len(out) > most {
			return nil, api.ErrMany
		}
		i = last + 1
	}
	return out, api.OK
}

// checkUnpack compares Unpack with slowUnpack.
func checkUnpack(t *testing.T, b []byte, most int) {
	t.Helper()
	got, e := Unpack(b, most)
	want, wantE := slowUnpack(b, most)
	if !bytes.Equal(got, want) || e != wantE {
		t.Fatalf("Unpack(%v, %d) = %v, %d, want %v, %d", b, most, got, e, want, wantE)
	}
}

type packing struct{ plain, want []byte }

func checkPack(t *testing.T, l []packing) {
	t.Helper()
	for _, c := range l {
		if got := Pack(c.plain); !bytes.Equal(got, c.want) {
			t.Errorf("Pack(%v) = %v, want %v", c.plain, got, c.want)
		}
	}
}

type refusal struct {
	b    []byte
	most int
	want api.Errno
}

func checkRefused(t *testing.T, l []refusal) {
	t.Helper()
	for _, c := range l {
		if got, e := Unpack(c.b, c.most); len(got) != 0 || e != c.want {
			t.Errorf("Unpack(%v, %d) = %v, %d, want none, %d", c.b, c.most, got, e, c.want)
		}
	}
}

func TestPack(t *testing.T) { // P2.1
	checkPack(t, []packing{
		{nil, nil},
		{[]byte{}, nil},
		{[]byte{7, 7, 7, 7, 9}, []byte{132, 7, 1, 9}},
		{[]byte{0}, []byte{1, 0}},
		{[]byte{200}, []byte{1, 200}},
		{[]byte{5, 5}, []byte{2, 5, 5}},
		{[]byte{5, 5, 5}, []byte{131, 5}},
		{[]byte{5, 6, 5, 6}, []byte{4, 5, 6, 5, 6}},
		{[]byte{1, 2, 2, 3}, []byte{4, 1, 2, 2, 3}},
		{[]byte{1, 1, 2, 2, 3, 3}, []byte{6, 1, 1, 2, 2, 3, 3}},
		{[]byte{1, 1, 1, 2, 2, 2}, []byte{131, 1, 131, 2}},
		{[]byte{1, 1, 2, 2, 2}, []byte{2, 1, 1, 131, 2}},
		{[]byte{1, 1, 1, 2, 2}, []byte{131, 1, 2, 2, 2}},
		{[]byte{9, 7, 7, 7, 8, 8, 6}, []byte{1, 9, 131, 7, 3, 8, 8, 6}},
		{[]byte{255, 255, 255, 128, 127}, []byte{131, 255, 2, 128, 127}},
	})
}

func TestPackLongRuns(t *testing.T) { // P2.1: at most 127 of a run are taken
	checkPack(t, []packing{
		{run(126, 4), []byte{254, 4}},
		{run(127, 4), []byte{255, 4}},
		{run(128, 4), []byte{255, 4, 1, 4}},
		{run(129, 4), []byte{255, 4, 2, 4, 4}},
		{run(130, 4), []byte{255, 4, 131, 4}},
		{run(253, 4), []byte{255, 4, 254, 4}},
		{run(254, 4), []byte{255, 4, 255, 4}},
		{run(255, 4), []byte{255, 4, 255, 4, 1, 4}},
		{run(256, 4), []byte{255, 4, 255, 4, 2, 4, 4}},
		{run(257, 4), []byte{255, 4, 255, 4, 131, 4}},
		{join(run(127, 4), run(3, 5)), []byte{255, 4, 131, 5}},
		{join(run(128, 4), run(2, 5)), []byte{255, 4, 3, 4, 5, 5}},
		{join(run(129, 4), run(3, 5)), []byte{255, 4, 2, 4, 4, 131, 5}},
		{join([]byte{3}, run(128, 4)), []byte{1, 3, 255, 4, 1, 4}},
	})
}

func TestPackManyLiterals(t *testing.T) { // P2.1: at most 127 literals are taken together
	l := mixed(400, 0)
	checkPack(t, []packing{
		{l[:126], join([]byte{126}, l[:126])},
		{l[:127], join([]byte{127}, l[:127])},
		{l[:128], join([]byte{127}, l[:127], []byte{1}, l[127:128])},
		{l[:254], join([]byte{127}, l[:127], []byte{127}, l[127:254])},
		{l[:255], join([]byte{127}, l[:127], []byte{127}, l[127:254], []byte{1}, l[254:255])},
		{join(l[:126], run(2, 200)), join([]byte{127}, l[:126], []byte{200, 1, 200})},
		{join(l[:126], run(3, 200)), join([]byte{126}, l[:126], []byte{131, 200})},
		{join(l[:127], run(2, 200)), join([]byte{127}, l[:127], []byte{2, 200, 200})},
		{join(l[:127], run(3, 200)), join([]byte{127}, l[:127], []byte{131, 200})},
		{join(l[:125], run(2, 200), l[:2]), join([]byte{127}, l[:125], run(2, 200), []byte{2}, l[:2])},
		{join(l[:100], run(3, 200), l[:100]), join([]byte{100}, l[:100], []byte{131, 200, 100}, l[:100])},
		{join(run(3, 200), l[:128]), join([]byte{131, 200, 127}, l[:127], []byte{1}, l[127:128])},
		{join(run(128, 200), l[:126]), join([]byte{255, 200, 127, 200}, l[:126])},
		{join(run(128, 200), l[:127]), join([]byte{255, 200, 127, 200}, l[:126], []byte{1}, l[126:127])},
	})
}

func TestPackEveryShape(t *testing.T) { // P2.1
	check := func(b []byte) {
		got := Pack(b)
		if wrong := wrongIn(b, got); wrong != "" {
			t.Fatalf("Pack(%v) = %v: %s", b, got, wrong)
		}
	}
	eachText(8, []byte{0, 1, 255}, check)
	for _, b := range plains() {
		check(b)
	}
	for before := range 131 {
		for n := range 131 {
			check(join(mixed(before, 0), run(n, 200), mixed(3, 50)))
		}
	}
}

func TestUnpack(t *testing.T) { // P2.2
	l := mixed(127, 0)
	for _, c := range []struct{ b, want []byte }{
		{nil, nil},
		{[]byte{}, nil},
		{[]byte{132, 7, 1, 9}, []byte{7, 7, 7, 7, 9}},
		{[]byte{1, 0}, []byte{0}},
		{[]byte{1, 128}, []byte{128}},
		{[]byte{3, 0, 128, 255}, []byte{0, 128, 255}},
		{[]byte{129, 0}, []byte{0}}, // not what Pack writes, from here on
		{[]byte{130, 128}, []byte{128, 128}},
		{[]byte{1, 6, 1, 6, 130, 6, 131, 6}, run(7, 6)},
		{[]byte{4, 6, 6, 6, 6}, run(4, 6)},
		{[]byte{255, 3, 255, 3}, run(254, 3)},
		{join([]byte{127}, l, []byte{127}, l), join(l, l)},
	} {
		for _, most := range []int{len(c.want), len(c.want) + 1, math.MaxInt} {
			if got, e := Unpack(c.b, most); !bytes.Equal(got, c.want) || e != api.OK {
				t.Errorf("Unpack(%v, %d) = %v, %d, want %v, 0", c.b, most, got, e, c.want)
			}
		}
	}
}

func TestUnpackErrors(t *testing.T) { // P2.2; P3: the other result is zero
	checkRefused(t, []refusal{
		{[]byte{0}, 9, api.ErrForm},
		{[]byte{128}, 9, api.ErrForm},
		{[]byte{0, 1}, 9, api.ErrForm},
		{[]byte{128, 1}, 9, api.ErrForm},
		{[]byte{1, 5, 0}, 9, api.ErrForm},
		{[]byte{131, 5, 128, 5}, 9, api.ErrForm},
		{[]byte{1}, 9, api.ErrTorn},
		{[]byte{2, 1}, 9, api.ErrTorn},
		{[]byte{129}, 9, api.ErrTorn},
		{[]byte{131}, 9, api.ErrTorn},
		{[]byte{1, 5, 3, 5, 5}, 9, api.ErrTorn},
		{[]byte{131, 5, 131}, 9, api.ErrTorn},
		{join([]byte{127}, run(126, 5)), 127, api.ErrTorn},
		{[]byte{138, 1}, 9, api.ErrMany},
		{join([]byte{10}, run(10, 1)), 9, api.ErrMany},
		{[]byte{137, 1, 1, 1}, 9, api.ErrMany},
		{[]byte{137, 1, 129, 1}, 9, api.ErrMany},
		{[]byte{1, 1}, 0, api.ErrMany},
		{[]byte{129, 1}, 0, api.ErrMany},
		{[]byte{129, 1}, -1, api.ErrMany},
		{[]byte{129, 1}, math.MinInt, api.ErrMany},
		{[]byte{255, 1}, math.MinInt, api.ErrMany},
	})
}

func TestUnpackFirstError(t *testing.T) { // P2.2, P3: in the order of the document for one byte, then of the bytes
	checkRefused(t, []refusal{
		{[]byte{128}, 9, api.ErrForm},           // no byte follows, either
		{[]byte{0}, -1, api.ErrForm},            // too many, too
		{[]byte{128}, -1, api.ErrForm},          // all three
		{[]byte{10, 1}, 9, api.ErrTorn},         // too many, too
		{[]byte{138}, 9, api.ErrTorn},           // too many, too
		{[]byte{138}, math.MinInt, api.ErrTorn}, // too many, too
		{[]byte{138, 1, 0}, 9, api.ErrMany},     // then a length of 0
		{[]byte{138, 1, 7}, 9, api.ErrMany},     // then too few bytes
		{[]byte{0, 138, 1}, 9, api.ErrForm},     // then too many
		{[]byte{0, 7}, 9, api.ErrForm},          // then too few bytes
		{[]byte{1, 5, 0, 7}, 1, api.ErrForm},
		{[]byte{1, 5, 7}, 1, api.ErrTorn},
		{[]byte{1, 5, 1, 5, 0}, 1, api.ErrMany},
	})
}

func TestUnpackNothing(t *testing.T) { // P2.2: the errors are those of a byte, and there is none
	for _, most := range []int{math.MinInt, -1, 0, 1, math.MaxInt} {
		for _, b := range [][]byte{nil, {}} {
			if got, e := Unpack(b, most); len(got) != 0 || e != api.OK {
				t.Errorf("Unpack(%v, %d) = %v, %d, want none, 0", b, most, got, e)
			}
		}
	}
}

func TestUnpackAnyBytes(t *testing.T) { // P2.2; P1: no panic
	eachText(5, []byte{0, 1, 2, 3, 128, 129, 131}, func(b []byte) {
		for most := -1; most <= 7; most++ {
			checkUnpack(t, b, most)
		}
	})
	for x := range 256 {
		for n := range 130 {
			for _, most := range []int{0, n, 127, 254} {
				checkUnpack(t, join([]byte{byte(x)}, mixed(n, byte(x))), most)
			}
		}
	}
	for seed := range uint32(3000) {
		var b []byte
		for _, x := range numbers(int(seed%60), seed) {
			b = append(b, byte(x>>9))
		}
		for _, most := range []int{math.MinInt, -1, 0, 50, 400, math.MaxInt} {
			checkUnpack(t, b, most)
		}
	}
}

func TestUnpackOfPack(t *testing.T) { // P2.3
	check := func(b []byte) {
		packed := Pack(b)
		for _, most := range []int{len(b), len(b) + 1, math.MaxInt} {
			if got, e := Unpack(packed, most); !bytes.Equal(got, b) || e != api.OK {
				t.Fatalf("Unpack(Pack(%v), %d) = %v, %d", b, most, got, e)
			}
		}
		if got, e := Unpack(packed, len(b)-1); len(b) > 0 && (len(got) != 0 || e != api.ErrMany) {
			t.Fatalf("Unpack(Pack(%v)) with one byte too few = %v, %d", b, got, e)
		}
	}
	eachText(7, []byte{0, 7, 255}, check)
	for x := range 256 {
		for n := range 4 {
			check(run(n, byte(x)))
		}
	}
	for _, b := range plains() {
		check(b)
	}
	for n := range 400 {
		check(run(n, 9))
		check(mixed(n, 9))
	}
}

func TestOnlyArgumentsCount(t *testing.T) { // P1
	b := lumpy(5)
	packed := Pack(b)
	Pack([]byte{1, 1, 1})
	Unpack([]byte{131, 1, 0}, 9)
	roomy := append(make([]byte, 0, 2*len(b)), b...)
	for _, l := range [][]byte{b, bytes.Clone(b), roomy} {
		if got := Pack(l); !bytes.Equal(got, packed) {
			t.Errorf("the same bytes: %v, want %v", got, packed)
		}
	}
	roomy = append(make([]byte, 0, 2*len(packed)), packed...)
	for _, l := range [][]byte{packed, bytes.Clone(packed), roomy} {
		if got, e := Unpack(l, len(b)); !bytes.Equal(got, b) || e != api.OK {
			t.Errorf("the same bytes: %v, %d, want %v, 0", got, e, b)
		}
	}
}

func TestArgumentsAreOnlyRead(t *testing.T) { // P2: also what lies behind them
	room := join(lumpy(8), Pack(lumpy(9)))
	before := bytes.Clone(room)
	for n := range len(room) + 1 {
		Pack(room[:n])
		Unpack(room[:n], 50)
		Unpack(room[n:], math.MaxInt)
		if !bytes.Equal(room, before) {
			t.Fatalf("the bytes were divided at %d, and have changed", n)
		}
	}
}

func TestResultsAreNew(t *testing.T) { // P2
	fill := func(b []byte) {
		b = b[:cap(b)]
		for i := range b {
			b[i] = 99
		}
	}
	for _, b := range plains() {
		plain, packed := bytes.Clone(b), Pack(b)
		fill(Pack(b))
		if !bytes.Equal(b, plain) || !bytes.Equal(Pack(b), packed) {
			t.Fatalf("a result of Pack shares memory with its argument %v or another result", plain)
		}
		again := bytes.Clone(packed)
		first, _ := Unpack(packed, len(plain))
		second, _ := Unpack(packed, len(plain))
		fill(second)
		if !bytes.Equal(packed, again) || !bytes.Equal(first, plain) {
			t.Fatalf("a result of Unpack shares memory with its argument %v or another result", again)
		}
	}
}
