package compose

import (
	"bytes"
	"math"
	"slices"
	"strings"
	"testing"

	"cobbler/api"
	"cobbler/delta"
)

// put returns a step that inserts text.
func put(text string) api.Op { return api.Op{Data: []byte(text)} }

// take returns a step that copies n bytes from at on.
func take(at, n int) api.Op { return api.Op{At: at, Len: n} }

func steps(l ...api.Op) []api.Op { return l }

// times returns a list of n such steps.
func times(n int, o api.Op) []api.Op { return slices.Repeat([]api.Op{o}, n) }

// letters returns n times the same letter.
func letters(n int) string { return strings.Repeat("a", n) }

// rising returns n bytes that all differ; the first one is start.
func rising(n int, start byte) []byte {
	b := make([]byte, n)
	for i := range b {
		b[i] = start + byte(i)
	}
	return b
}

// inTurn returns n steps of one byte each, none of which can be combined with the next one.
func inTurn(n int) []api.Op {
	l := make([]api.Op, n)
	for i := range l {
		l[i] = take(i, 1)
		if i%2 == 0 {
			l[i] = api.Op{Data: []byte{byte('a' + i)}}
		}
	}
	return l
}

// numbers returns a source of numbers below a limit; they look random and are the same each time.
func numbers(seed uint64) func(int) int {
	return func(limit int) int {
		seed = seed*6364136223846793005 + 1442695040888963407
		return int(seed >> 33 % uint64(limit))
	}
}

// cloned returns the steps with Data of their own.
func cloned(l []api.Op) []api.Op {
	c := slices.Clone(l)
	for i := range c {
		c[i].Data = bytes.Clone(c[i].Data)
	}
	return c
}

// plain says whether two lists of steps agree, field by field.
func plain(a, b []api.Op) bool {
	if len(a) != len(b) {
		return false
	}
	for i := range a {
		if a[i].At != b[i].At || a[i].Len != b[i].Len || string(a[i].Data) != string(b[i].Data) {
			return false
		}
	}
	return true
}

// size returns how many bytes a valid delta produces.
func size(l []api.Op) int {
	n := 0
	for _, o := range l {
		n += o.Len + len(o.Data)
	}
	return n
}

// origin of one byte: place at of the old image, or (at -1) a byte that is inserted.
type origin struct {
	at   int
	data byte
}

// origins returns where each byte comes from that l produces; from says it of the image that l copies from.
func origins(l []api.Op, from []origin) []origin {
	var r []origin
	for _, o := range l {
		for _, x := range o.Data {
			r = append(r, origin{-1, x})
		}
		for i := range o.Len {
			r = append(r, from[o.At+i])
		}
	}
	return r
}

// joined returns the fewest steps that produce bytes of these origins.
func joined(r []origin) []api.Op {
	var l []api.Op
	for len(r) > 0 {
		n := 1
		if r[0].at >= 0 {
			for n < len(r) && r[n].at == r[0].at+n {
				n++
			}
			l = append(l, take(r[0].at, n))
		} else {
			data := []byte{r[0].data}
			for n < len(r) && r[n].at < 0 {
				data = append(data, r[n].data)
				n++
			}
			l = append(l, api.Op{Data: data})
		}
		r = r[n:]
	}
	return l
}

// joinedSteps returns the fewest steps with the effect of l on an image of old bytes.
func joinedSteps(l []api.Op, old int) []api.Op { return joined(origins(l, image(old))) }

// image returns the origins of the bytes of the old image itself.
func image(old int) []origin {
	r := make([]origin, old)
	for i := range r {
		r[i].at = i
	}
	return r
}

// slowOf follows each byte through both deltas.
func slowOf(first, second []api.Op, old, mid, size int) ([]api.Op, api.Errno) {
	if e := delta.Check(first, old, mid); e != api.OK {
		return nil, e
	}
	if e := delta.Check(second, mid, size); e != api.OK {
		return nil, e
	}
	l := joined(origins(second, origins(first, image(old))))
	if len(l) > 40 {
		return nil, api.ErrMany
	}
	return l, api.OK
}

// checkOf compares Of with slowOf, and applies what it returns.
func checkOf(t *testing.T, first, second []api.Op, old, mid, size int) {
	t.Helper()
	l, e := Of(first, second, old, mid, size)
	want, f := slowOf(first, second, old, mid, size)
	if e != f || !plain(l, want) {
		t.Fatalf("Of(%v, %v, %d, %d, %d) = %v, %d, want %v, %d", first, second, old, mid, size, l, e, want, f)
	}
	if e == api.OK {
		checkEffect(t, first, second, l, rising(old, 200), mid, size)
	}
}

// checkEffect says whether l produces from an image what first and second produce (P5.2).
func checkEffect(t *testing.T, first, second, l []api.Op, image []byte, mid, size int) {
	t.Helper()
	half, e := delta.Apply(image, first, mid)
	both, f := delta.Apply(half, second, size)
	once, g := delta.Apply(image, l, size)
	if e != api.OK || f != api.OK || g != api.OK || !bytes.Equal(both, once) {
		t.Fatalf("%v and %v produce %v, and %v produces %v; errors %d, %d, %d", first, second, both, l, once, e, f, g)
	}
}

type pair struct {
	first, second []api.Op
	old           int
	want          []api.Op
}

// checkPairs tries pairs of valid deltas.
func checkPairs(t *testing.T, l []pair) {
	t.Helper()
	for i, c := range l {
		mid, n := size(c.first), size(c.second)
		got, e := Of(c.first, c.second, c.old, mid, n)
		if e != api.OK || !plain(got, c.want) {
			t.Errorf("%d: Of(%v, %v, %d, %d, %d) = %v, %d, want %v, 0", i, c.first, c.second, c.old, mid, n, got, e, c.want)
		}
		checkOf(t, c.first, c.second, c.old, mid, n)
	}
}

func TestOf(t *testing.T) { // P5.1
	l := steps(put("x"), take(4, 4), take(0, 4)) // makes xefghabcd out of abcdefgh
	checkPairs(t, []pair{
		{l, steps(take(3, 4), put("y"), take(0, 2)), 8, steps(take(6, 2), take(0, 2), put("yx"), take(4, 1))},
		{l, steps(take(0, 9)), 8, l},
		{l, steps(put("q")), 8, steps(put("q"))},
		{l, steps(take(5, 4), take(1, 4), take(0, 1)), 8, steps(take(0, 8), put("x"))},
		{l, steps(take(1, 4), take(1, 4)), 8, steps(take(4, 4), take(4, 4))},
		{l, steps(take(0, 1), take(0, 1), take(0, 1)), 8, steps(put("xxx"))},
		{l, steps(take(0, 9), take(0, 9)), 8, slices.Concat(l, l)},
		{l, steps(take(8, 1), take(0, 1), take(4, 1)), 8, steps(take(3, 1), put("x"), take(7, 1))},
		{steps(take(2, 3), take(5, 3)), steps(take(1, 4)), 8, steps(take(3, 4))},
	})
}

// someDelta returns a valid delta of at most most steps for an image of old bytes.
func someDelta(next func(int) int, old, most int) []api.Op {
	var l []api.Op
	room := next(65)
	for range next(most + 1) {
		if room == 0 {
			break
		}
		n := 1 + next(min(room, 1+next(16)))
		if old == 0 || next(3) == 0 {
			l = append(l, api.Op{Data: rising(n, byte(next(256)))})
		} else {
			n = min(n, old)
			l = append(l, take(next(old-n+1), n))
		}
		room -= n
	}
	return l
}

// everything returns a delta that copies n bytes.
func everything(n int) []api.Op {
	if n == 0 {
		return nil
	}
	return steps(take(0, n))
}

func TestCopyOfEverything(t *testing.T) { // P5.1: the chapter's example, and the other way round
	next := numbers(5)
	for old := range 65 {
		for range 40 {
			l := someDelta(next, old, 40)
			n := size(l)
			want := joinedSteps(l, old)
			checkPairs(t, []pair{{everything(old), l, old, want}, {l, everything(n), old, want}})
		}
	}
}

func TestNoSteps(t *testing.T) { // P5.1: no step in first, in second, in both
	checkPairs(t, []pair{
		{nil, nil, 0, nil},
		{nil, nil, 8, nil},
		{nil, nil, 64, nil},
		{steps(), steps(), 8, nil},
		{nil, steps(put("x")), 0, steps(put("x"))},
		{steps(), steps(put("x"), put("yz")), 8, steps(put("xyz"))},
		{nil, steps(put(letters(64))), 64, steps(put(letters(64)))},
		{steps(put("x")), nil, 0, nil},
		{steps(take(0, 8), put("x")), steps(), 8, nil},
		{steps(take(0, 64)), nil, 64, nil},
	})
}

func TestSizesAtTheEnds(t *testing.T) { // P5.1: old, mid and size 0 and api.MaxImage
	full, text := steps(take(0, 64)), steps(put(letters(64)))
	checkPairs(t, []pair{
		{text, full, 0, text},
		{text, full, 64, text},
		{full, full, 64, full},
		{full, text, 64, text},
		{text, text, 0, text},
		{full, steps(take(63, 1)), 64, steps(take(63, 1))},
		{steps(take(63, 1)), times(3, take(0, 1)), 64, times(3, take(63, 1))},
		{full, steps(take(32, 32), take(0, 32)), 64, steps(take(32, 32), take(0, 32))},
		{steps(take(32, 32), take(0, 32)), steps(take(32, 32), take(0, 32)), 64, full},
		{steps(take(0, 32), put(letters(32))), steps(take(16, 32), take(0, 32)), 64, steps(take(16, 16), put(letters(16)), take(0, 32))},
		{steps(take(0, 1)), times(40, take(0, 1)), 1, times(40, take(0, 1))},
		{steps(put("a")), times(40, take(0, 1)), 0, steps(put(letters(40)))},
	})
}

func TestCuts(t *testing.T) { // P5.1: where a copied part begins and ends
	l := steps(take(10, 4), put("abcd"), take(30, 4), put("xyz")) // 0 to 4 to 8 to 12 to 15
	checkPairs(t, []pair{
		{l, steps(take(0, 4)), 40, steps(take(10, 4))}, // one whole step
		{l, steps(take(4, 4)), 40, steps(put("abcd"))},
		{l, steps(take(8, 4)), 40, steps(take(30, 4))},
		{l, steps(take(12, 3)), 40, steps(put("xyz"))},
		{l, steps(take(0, 1)), 40, steps(take(10, 1))}, // within one step: its beginning, its middle, its end
		{l, steps(take(1, 2)), 40, steps(take(11, 2))},
		{l, steps(take(3, 1)), 40, steps(take(13, 1))},
		{l, steps(take(4, 1)), 40, steps(put("a"))},
		{l, steps(take(5, 2)), 40, steps(put("bc"))},
		{l, steps(take(7, 1)), 40, steps(put("d"))},
		{l, steps(take(14, 1)), 40, steps(put("z"))},
		{l, steps(take(0, 8)), 40, steps(take(10, 4), put("abcd"))}, // several whole steps
		{l, steps(take(4, 8)), 40, steps(put("abcd"), take(30, 4))},
		{l, steps(take(0, 15)), 40, l},
		{l, steps(take(3, 2)), 40, steps(take(13, 1), put("a"))}, // over a seam
		{l, steps(take(7, 2)), 40, steps(put("d"), take(30, 1))},
		{l, steps(take(2, 8)), 40, steps(take(12, 2), put("abcd"), take(30, 2))}, // both ends are cut
		{l, steps(take(6, 8)), 40, steps(put("cd"), take(30, 4), put("xy"))},
		{l, steps(take(0, 5)), 40, steps(take(10, 4), put("a"))}, // one end is cut
		{l, steps(take(3, 5)), 40, steps(take(13, 1), put("abcd"))},
		{l, steps(take(1, 14)), 40, steps(take(11, 3), put("abcd"), take(30, 4), put("xyz"))},
		{l, steps(take(0, 14)), 40, steps(take(10, 4), put("abcd"), take(30, 4), put("xy"))},
	})
	for at := range 15 { // and every part
		for n := 1; at+n <= 15; n++ {
			checkOf(t, l, steps(take(at, n)), 40, 15, n)
			checkOf(t, l, steps(take(at, n), put("q"), take(at, n)), 40, 15, 2*n+1)
		}
	}
}

func TestAdjacentData(t *testing.T) { // P5.1: it becomes one step, whichever delta it is of
	checkPairs(t, []pair{
		{nil, steps(put("ab"), put("c"), put("d")), 0, steps(put("abcd"))}, // of second alone
		{steps(put("ab"), put("c")), steps(take(0, 3)), 0, steps(put("abc"))},
		{steps(put("ab"), put("cd")), steps(take(1, 2)), 0, steps(put("bc"))},
		{steps(put("abcd")), steps(take(2, 2), take(0, 2)), 0, steps(put("cdab"))},
		{steps(put("abcd")), steps(take(0, 4), take(0, 4)), 0, steps(put("abcdabcd"))},
		{steps(put("ab"), take(0, 1)), steps(put("x"), take(0, 2)), 8, steps(put("xab"))}, // of both
		{steps(take(0, 1), put("ab")), steps(take(1, 2), put("x")), 8, steps(put("abx"))},
		{steps(put("ab")), steps(put("x"), take(0, 2), put("y"), take(1, 1), put("z")), 0, steps(put("xabybz"))},
		{steps(put("a"), take(3, 1), put("b")), steps(take(0, 3), put("x"), take(0, 3)), 8, steps(put("a"), take(3, 1), put("bxa"), take(3, 1), put("b"))},
		{steps(put("a"), take(3, 1), put("b")), steps(take(2, 1), take(0, 1)), 8, steps(put("ba"))},                    // what lay between is not copied
		{steps(put("a"), take(3, 1), put("b")), steps(take(0, 2), put("x")), 8, steps(put("a"), take(3, 1), put("x"))}, // a copy lies between
		{steps(take(0, 8)), steps(put("x"), take(0, 1), put("y")), 8, steps(put("x"), take(0, 1), put("y"))},
	})
}

func TestAdjacentCopies(t *testing.T) { // P5.1: they become one step if the old image goes on
	checkPairs(t, []pair{
		{steps(take(0, 4), take(4, 4)), steps(take(0, 8)), 8, steps(take(0, 8))},
		{steps(take(0, 2), take(2, 2), take(4, 2)), steps(take(1, 4)), 8, steps(take(1, 4))},
		{steps(take(0, 8)), steps(take(0, 4), take(4, 4)), 8, steps(take(0, 8))},
		{steps(take(0, 8)), times(8, take(0, 1)), 8, times(8, take(0, 1))},
		{steps(take(4, 4), take(0, 4)), steps(take(4, 4), take(0, 4)), 8, steps(take(0, 8))},
		{steps(take(0, 2), put("x"), take(2, 2)), steps(take(0, 2), take(3, 2)), 8, steps(take(0, 4))}, // what lay between is not copied
		{steps(take(0, 2), put("x"), take(2, 2)), steps(take(0, 5)), 8, steps(take(0, 2), put("x"), take(2, 2))},
		{steps(take(0, 8)), steps(take(0, 2), put("x"), take(2, 2)), 8, steps(take(0, 2), put("x"), take(2, 2))},
		{steps(take(0, 3), take(4, 4)), steps(take(0, 7)), 8, steps(take(0, 3), take(4, 4))},             // a byte is left out
		{steps(take(0, 4), take(3, 4)), steps(take(0, 8)), 8, steps(take(0, 4), take(3, 4))},             // one comes twice
		{steps(take(4, 4), take(0, 4)), steps(take(0, 8)), 8, steps(take(4, 4), take(0, 4))},             // the first continues the second one
		{steps(take(0, 4), take(0, 4)), steps(take(0, 8)), 8, steps(take(0, 4), take(0, 4))},             // the same again
		{steps(take(0, 4), take(4, 4)), steps(take(0, 4), take(5, 3)), 8, steps(take(0, 4), take(5, 3))}, // they would continue, were they not cut
		{steps(take(0, 4), take(4, 4)), steps(take(0, 3), take(4, 4)), 8, steps(take(0, 3), take(4, 4))}, // they do in first
		{steps(take(0, 4), take(5, 3)), steps(take(0, 4), take(4, 3)), 8, steps(take(0, 4), take(5, 3))}, // they do in the intermediate image
		{steps(take(1, 1), take(2, 1), take(4, 1), take(5, 1)), steps(take(0, 4)), 8, steps(take(1, 2), take(4, 2))},
		{steps(put("x"), take(0, 4)), steps(take(0, 1), take(1, 4)), 8, steps(put("x"), take(0, 4))}, // at 0, behind Data
	})
}

func TestMostSteps(t *testing.T) { // P5.1: just api.MaxOps steps are left, of as many or of more
	twenty, forty := inTurn(20), inTurn(40)
	twice := slices.Concat(twenty, twenty)
	checkPairs(t, []pair{
		{forty, steps(take(0, 40)), 64, forty},
		{steps(take(0, 64)), forty, 64, forty},
		{times(40, take(3, 1)), steps(take(0, 40)), 64, times(40, take(3, 1))},
		{steps(take(3, 1)), times(40, take(0, 1)), 64, times(40, take(3, 1))},
		{twenty, steps(take(0, 20), take(0, 20)), 64, twice},
		{twenty, steps(put("x"), take(0, 20), take(0, 20)), 64, slices.Concat(steps(put("xa")), twice[1:])},
		{slices.Concat(twenty, steps(take(20, 1))), steps(take(0, 20), take(0, 21)), 64, slices.Concat(twice[:39], steps(take(19, 2)))},
		{times(32, put("a")), steps(take(0, 32), take(0, 32)), 0, steps(put(letters(64)))},
		{forty, times(40, take(39, 1)), 64, times(40, take(39, 1))},
	})
}

func TestTooManySteps(t *testing.T) { // P5.1: more than api.MaxOps steps are left; P3: none of them is returned
	twenty := inTurn(20)
	for _, c := range []pair{
		{first: twenty, second: steps(take(0, 20), take(0, 20), take(0, 1))},           // 41
		{first: twenty, second: steps(take(0, 20), take(0, 20), put("x"))},             // 41
		{first: twenty, second: steps(take(0, 20), take(0, 20), take(0, 1), put("x"))}, // 42, two of them combined
		{first: twenty, second: steps(take(19, 1), take(0, 20), take(0, 20))},          // 41
		{first: twenty, second: steps(take(0, 20), take(0, 20), take(0, 20))},          // 60
		{first: inTurn(32), second: steps(take(0, 32), take(0, 32))},                   // 64
		{first: inTurn(40), second: steps(take(0, 40), put("x"))},                      // 41
		{first: times(30, take(0, 1)), second: steps(take(0, 30), take(0, 11))},        // 41
	} {
		mid, n := size(c.first), size(c.second)
		if l, e := Of(c.first, c.second, 64, mid, n); e != api.ErrMany || len(l) != 0 {
			t.Errorf("Of(%v, %v, 64, %d, %d) = %v, %d, want none, %d", c.first, c.second, mid, n, l, e, api.ErrMany)
		}
		checkOf(t, c.first, c.second, 64, mid, n)
	}
}

type refusal struct {
	first, second  []api.Op
	old, mid, size int
	want           api.Errno
}

// checkRefusals tries what Of refuses: P3, nothing comes with the error.
func checkRefusals(t *testing.T, l []refusal) {
	t.Helper()
	for i, c := range l {
		if got, e := Of(c.first, c.second, c.old, c.mid, c.size); e != c.want || len(got) != 0 {
			t.Errorf("%d: Of(%v, %v, %d, %d, %d) = %v, %d, want none, %d", i, c.first, c.second, c.old, c.mid, c.size, got, e, c.want)
		}
	}
}

func TestRefusesSizes(t *testing.T) { // P5.1
	for _, bad := range []int{-1, 65, 66, 1000, -64, math.MaxInt, math.MinInt} {
		checkRefusals(t, []refusal{
			{nil, nil, bad, 0, 0, api.ErrMany},
			{nil, nil, 0, bad, 0, api.ErrMany},
			{nil, nil, 0, 0, bad, api.ErrMany},
			{nil, nil, bad, bad, bad, api.ErrMany},
			{steps(put("x")), steps(take(0, 1)), bad, 1, 1, api.ErrMany},
			{steps(put("x")), steps(take(0, 1)), 1, bad, 1, api.ErrMany},
			{steps(put("x")), steps(take(0, 1)), 1, 1, bad, api.ErrMany},
			{steps(api.Op{}), steps(put("x")), 1, bad, 1, api.ErrMany}, // before the steps of first
			{steps(api.Op{}), steps(put("x")), 1, 1, bad, api.ErrForm}, // behind them
			{steps(take(1, 1)), steps(put("x")), 1, 1, bad, api.ErrRange},
			{nil, steps(api.Op{}), 1, 0, bad, api.ErrMany},
		})
	}
}

func TestRefusesTooManyGiven(t *testing.T) { // P5.1, though a combined list would be short enough
	checkRefusals(t, []refusal{
		{times(41, put("x")), nil, 0, 41, 0, api.ErrMany},
		{times(41, put("x")), steps(take(0, 1)), 0, 41, 1, api.ErrMany},
		{times(1000, put("x")), steps(take(0, 1)), 0, 64, 1, api.ErrMany},
		{nil, times(41, put("x")), 0, 0, 41, api.ErrMany},
		{steps(put("x")), times(41, take(0, 1)), 0, 1, 41, api.ErrMany},
		{steps(put("x")), times(1000, take(0, 1)), 0, 1, 64, api.ErrMany},
		{times(41, api.Op{}), times(41, api.Op{}), 0, 0, 0, api.ErrMany},
	})
}

func TestRefusesBytes(t *testing.T) { // P5.1: a delta that makes more or fewer bytes than it should
	l, m := steps(put("x"), take(4, 4), take(0, 4)), steps(take(3, 4), put("y"), take(0, 2))
	checkRefusals(t, []refusal{
		{l, m, 8, 8, 7, api.ErrMany},
		{l, m, 8, 10, 7, api.ErrForm},
		{l, m, 8, 9, 6, api.ErrMany},
		{l, m, 8, 9, 8, api.ErrForm},
		{l, nil, 8, 9, 1, api.ErrForm},
		{nil, m, 8, 9, 7, api.ErrForm},
		{nil, nil, 0, 1, 0, api.ErrForm},
		{nil, nil, 0, 0, 1, api.ErrForm},
		{l, m, 7, 9, 7, api.ErrRange},                               // of first, beyond old
		{steps(put("x")), steps(take(1, 1)), 8, 1, 1, api.ErrRange}, // of second, beyond mid, within old
		{steps(put("x")), steps(take(0, 2)), 8, 1, 2, api.ErrRange},
		{nil, steps(take(0, 1)), 8, 0, 1, api.ErrRange},
		{steps(take(0, 1)), steps(take(0, 1)), 0, 1, 1, api.ErrRange},
		{steps(take(1, 1)), steps(take(0, 1)), 1, 1, 1, api.ErrRange}, // of first, within mid and size
		{steps(put("xyz")), steps(take(2, 1)), 0, 2, 1, api.ErrMany},
	})
}

// wrongSteps are steps that no delta from 8 bytes has.
func wrongSteps() []refusal {
	one := []byte("x")
	return []refusal{
		{first: steps(api.Op{}), want: api.ErrForm},
		{first: steps(api.Op{Data: []byte{}}), want: api.ErrForm},
		{first: steps(put(letters(65))), want: api.ErrForm},
		{first: steps(api.Op{At: 1, Data: one}), want: api.ErrForm},
		{first: steps(api.Op{At: -1, Data: one}), want: api.ErrForm},
		{first: steps(api.Op{At: math.MaxInt, Data: one}), want: api.ErrForm},
		{first: steps(api.Op{At: math.MinInt, Data: one}), want: api.ErrForm},
		{first: steps(api.Op{Len: 1, Data: one}), want: api.ErrForm},
		{first: steps(api.Op{Len: -1, Data: one}), want: api.ErrForm},
		{first: steps(api.Op{Len: math.MaxInt, Data: one}), want: api.ErrForm},
		{first: steps(api.Op{Len: math.MinInt, Data: one}), want: api.ErrForm},
		{first: steps(take(0, -1)), want: api.ErrRange},
		{first: steps(take(-1, 1)), want: api.ErrRange},
		{first: steps(take(-1, -1)), want: api.ErrRange},
		{first: steps(take(0, 9)), want: api.ErrRange},
		{first: steps(take(8, 1)), want: api.ErrRange},
		{first: steps(take(math.MaxInt, 1)), want: api.ErrRange},
		{first: steps(take(1, math.MaxInt)), want: api.ErrRange},
		{first: steps(take(math.MaxInt, math.MaxInt)), want: api.ErrRange},
		{first: steps(take(math.MinInt, 1)), want: api.ErrRange},
		{first: steps(take(1, math.MinInt)), want: api.ErrRange},
		{first: steps(take(math.MinInt, math.MinInt)), want: api.ErrRange},
		{first: steps(take(math.MinInt, math.MaxInt)), want: api.ErrRange},
		{first: steps(take(math.MaxInt, math.MinInt)), want: api.ErrRange},
	}
}

func TestRefusesSteps(t *testing.T) { // P5.1, P3: at the first step and at a later one
	good := steps(take(0, 8))
	for _, w := range wrongSteps() {
		for _, l := range [][]api.Op{w.first, slices.Concat(steps(put("x")), w.first), slices.Concat(w.first, steps(put("x")))} {
			for _, n := range []int{1, 8, 64} {
				checkRefusals(t, []refusal{
					{l, everything(n), 8, n, n, w.want},
					{l, nil, 8, n, 0, w.want},
					{good, l, 8, 8, n, w.want},
					{good, l, 64, 8, n, w.want},
					{steps(put("abcdefgh")), l, 0, 8, n, w.want},
				})
			}
		}
	}
}

func TestRefusesFirstBeforeSecond(t *testing.T) { // P5.1, P3: errors of both at once
	for _, v := range wrongSteps() {
		for _, w := range wrongSteps() {
			checkRefusals(t, []refusal{
				{v.first, w.first, 8, 8, 8, v.want},
				{v.first, times(41, put("x")), 8, 8, 41, v.want},
				{v.first, nil, 8, 8, 8, v.want},
				{times(41, put("x")), w.first, 8, 8, 8, api.ErrMany},
				{steps(put("xyz")), w.first, 8, 2, 8, api.ErrMany},
				{nil, w.first, 8, 8, 8, api.ErrForm},
			})
		}
	}
}

func TestRefusesSecondBeforeResult(t *testing.T) { // P5.1, P3: what there is of the result has too many steps
	l := steps(take(0, 32), take(0, 32))
	checkRefusals(t, []refusal{
		{inTurn(32), l, 64, 32, 64, api.ErrMany},
		{inTurn(32), l[:1:1], 64, 32, 64, api.ErrForm},
		{inTurn(32), slices.Concat(l[:1], steps(take(0, 31))), 64, 32, 64, api.ErrForm},
		{inTurn(32), slices.Concat(l, steps(api.Op{})), 64, 32, 64, api.ErrForm},
		{inTurn(32), slices.Concat(l, steps(take(32, 1))), 64, 32, 64, api.ErrRange},
		{inTurn(32), l, 30, 32, 64, api.ErrRange},
		{inTurn(32), l, 64, 33, 64, api.ErrForm},
	})
}

func TestEveryShape(t *testing.T) { // P5.1; P1: no panic
	values := []int{0, 1, 2, -1, math.MaxInt, math.MinInt}
	var all []api.Op
	for _, at := range values {
		for _, n := range values {
			for _, data := range []string{"", "x", "xyz"} {
				all = append(all, api.Op{At: at, Len: n, Data: []byte(data)})
			}
		}
	}
	for _, x := range all {
		for _, y := range all {
			for _, mid := range []int{0, 1, 2, 3} {
				checkOf(t, steps(x), steps(y), 2, mid, 1)
				checkOf(t, steps(x), steps(take(0, 1), y), 3, mid, 2)
				checkOf(t, steps(take(1, 1), x), steps(y), 2, mid, 3)
				checkOf(t, steps(x, y), steps(take(0, 2)), 2, mid, 2)
			}
		}
	}
}

// deltas returns every delta from old bytes to size; what it inserts depends on the place, and starts with start.
func deltas(old, size int, start byte) [][]api.Op {
	all := [][][]api.Op{{nil}}
	for made := 1; made <= size; made++ {
		var l [][]api.Op
		for n := 1; n <= made; n++ {
			last := steps(api.Op{Data: rising(n, start+byte(made-n))})
			for at := 0; at+n <= old; at++ {
				last = append(last, take(at, n))
			}
			for _, before := range all[made-n] {
				for _, o := range last {
					l = append(l, append(slices.Clone(before), o))
				}
			}
		}
		all = append(all, l)
	}
	return all[size]
}

func TestEveryShortPair(t *testing.T) { // P5.1, P5.2
	for old := range 4 {
		for mid := range 4 {
			for n := range 5 {
				second := deltas(mid, n, 'A')
				for _, first := range deltas(old, mid, 'a') {
					for _, s := range second {
						checkOf(t, first, s, old, mid, n)
					}
				}
			}
		}
	}
}

func TestLongPairs(t *testing.T) { // P5.1, P5.2; some of them have too many steps, or don't fit
	next := numbers(1)
	for range 20000 {
		old := next(65)
		first := someDelta(next, old, 40)
		mid := size(first)
		second := someDelta(next, mid, 40)
		n := size(second)
		checkOf(t, first, second, old, mid, n)
		checkOf(t, first, second, old-next(2), mid+next(3)-1, n+next(3)-1)
	}
}

func TestOfDiff(t *testing.T) { // P5.2: three images, each made out of the one before
	next := numbers(2)
	changed := func(b []byte) []byte {
		at := next(len(b) + 1)
		c := slices.Concat(b[at:], rising(next(5), byte(next(256))), b[:at])
		return c[:min(len(c), 64-next(4))]
	}
	for range 3000 {
		a := rising(next(65), byte(next(256)))
		b := changed(changed(a))
		c := changed(changed(b))
		first, _ := delta.Diff(a, b)
		second, _ := delta.Diff(b, c)
		l, e := Of(first, second, len(a), len(b), len(c))
		if got, f := delta.Apply(a, l, len(c)); e != api.OK || f != api.OK || !bytes.Equal(got, c) {
			t.Fatalf("from %v to %v to %v: %v, %d, which makes %v, %d", a, b, c, l, e, got, f)
		}
		checkOf(t, first, second, len(a), len(b), len(c))
	}
}

func TestOnlyArgumentsCount(t *testing.T) { // P1: not what was called before, not what lies behind the lists
	first, second := steps(put("x"), take(4, 4), take(0, 4)), steps(take(3, 4), put("y"), take(0, 2))
	want := steps(take(6, 2), take(0, 2), put("yx"), take(4, 1))
	roomy := func(l []api.Op) []api.Op {
		r := append(make([]api.Op, 0, 50), cloned(l)...)
		for i := range r {
			if r[i].Len == 0 {
				r[i].Data = append(append(make([]byte, 0, 50), r[i].Data...), "behind"...)[:len(r[i].Data)]
			} else {
				r[i].Data = []byte("behind")[:0]
			}
		}
		return append(r, put("behind"), take(0, 1))[:len(l)]
	}
	Of(steps(put("zz")), steps(take(0, 2), put("z")), 0, 2, 3)
	Of(second, first, 8, 9, 7)
	for _, f := range [][]api.Op{first, cloned(first), roomy(first)} {
		for _, s := range [][]api.Op{second, cloned(second), roomy(second)} {
			if l, e := Of(f, s, 8, 9, 7); e != api.OK || !plain(l, want) {
				t.Errorf("Of the same steps: %v, %d", l, e)
			}
		}
	}
}

func TestArgumentsAreOnlyRead(t *testing.T) { // P2: also what lies behind them
	data := rising(100, 0)
	next := numbers(3)
	list := func(old int) []api.Op { // its Data, all of one array, has what follows as its spare capacity
		l := someDelta(next, old, 30)
		for i := range l {
			if n := len(l[i].Data); n > 0 {
				at := next(len(data) - n)
				l[i].Data = data[at : at+n]
			}
		}
		return append(l, put("behind"), put("all"))
	}
	for range 2000 {
		old := next(65)
		first := list(old)
		mid := size(first[:len(first)-2])
		second := list(mid)
		n := size(second[:len(second)-2])
		wasFirst, wasSecond := cloned(first), cloned(second)
		Of(first[:len(first)-2], second[:len(second)-2], old, mid, n)
		Of(first[:len(first)-2], second, old, mid, n)
		Of(first, second, old, mid, n)
		if !plain(first, wasFirst) || !plain(second, wasSecond) || !bytes.Equal(data, rising(100, 0)) {
			t.Fatalf("Of(%v, %v) has changed its arguments", wasFirst, wasSecond)
		}
	}
}

// spoil writes into every byte of a list and of its spare capacity.
func spoil(b []byte) {
	b = b[:cap(b)]
	for i := range b {
		b[i] ^= 0xff
	}
}

// spoilSteps writes into every step of a list, into its Data, and into the spare capacity of both.
func spoilSteps(l []api.Op) {
	l = l[:cap(l)]
	for i := range l {
		spoil(l[i].Data)
		l[i] = take(-7, -7)
	}
}

func TestResultIsNew(t *testing.T) { // P2: it shares no memory with the arguments, nor Data with other Data
	for _, c := range []pair{
		{steps(put("ab"), take(0, 1)), steps(take(0, 3), take(0, 3)), 8, steps(put("ab"), take(0, 1), put("ab"), take(0, 1))}, // Data of first twice
		{steps(put("abcd")), steps(take(1, 2)), 0, steps(put("bc"))},
		{steps(put("ab"), take(3, 1)), steps(take(0, 2), put("x"), take(2, 1)), 8, steps(put("abx"), take(3, 1))},
		{steps(take(0, 8)), steps(put("x"), take(0, 1), put("yz")), 8, steps(put("x"), take(0, 1), put("yz"))}, // Data of second as it is
		{steps(take(0, 8)), steps(take(0, 8)), 8, steps(take(0, 8))},
		{nil, steps(put("x"), put("y")), 8, steps(put("xy"))},
	} {
		first, second := cloned(c.first), cloned(c.second)
		mid, n := size(first), size(second)
		l, _ := Of(first, second, c.old, mid, n)
		again, _ := Of(first, second, c.old, mid, n)
		for i := range l {
			spoil(l[i].Data)
			l[i].Data = bytes.Clone(c.want[i].Data)
			if !plain(l, c.want) {
				t.Errorf("Data of step %d of %v shares memory with other Data", i, c.want)
			}
		}
		l, _ = Of(first, second, c.old, mid, n)
		spoilSteps(l)
		if !plain(first, c.first) || !plain(second, c.second) {
			t.Errorf("the result %v shares memory with an argument", c.want)
		}
		spoilSteps(first)
		spoilSteps(second)
		if !plain(again, c.want) {
			t.Errorf("the result is %v, want %v: it shares memory with an argument, or with another result", again, c.want)
		}
	}
}

func TestDataGivenTwice(t *testing.T) { // P2: steps whose Data is one and the same list in both arguments
	data := []byte("ab")
	first := steps(api.Op{Data: data}, take(0, 1), api.Op{Data: data})
	second := steps(api.Op{Data: data}, take(2, 1), api.Op{Data: data}, take(2, 3))
	want := steps(put("ab"), take(0, 1), put("ab"), take(0, 1), put("ab"))
	l, e := Of(first, second, 8, 5, 8)
	if e != api.OK || !plain(l, want) {
		t.Fatalf("%v, %d, want %v", l, e, want)
	}
	for i := range l {
		spoil(l[i].Data)
		l[i].Data = bytes.Clone(want[i].Data)
		if !plain(l, want) || string(data) != "ab" {
			t.Errorf("Data of step %d shares memory", i)
		}
	}
}
