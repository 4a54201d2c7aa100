package chunk

import (
	"bytes"
	"math"
	"slices"
	"testing"

	"cobbler/api"
	"cobbler/pack"
	"cobbler/patch"
)

// rising returns n bytes that all differ; the first one is start.
func rising(n int, start byte) []byte {
	b := make([]byte, n)
	for i := range b {
		b[i] = start + byte(i)
	}
	return b
}

// numbers returns a source of numbers below a limit; they look random and are the same each time.
func numbers(seed uint64) func(int) int {
	return func(limit int) int {
		seed = seed*6364136223846793005 + 1442695040888963407
		return int(seed >> 33 % uint64(limit))
	}
}

// shuffled returns the list in another order.
func shuffled[T any](next func(int) int, l []T) []T {
	l = slices.Clone(l)
	for i := range l {
		j := i + next(len(l)-i)
		l[i], l[j] = l[j], l[i]
	}
	return l
}

// orders calls f with each order of the list.
func orders[T any](l []T, f func([]T)) {
	if len(l) == 0 {
		f(nil)
		return
	}
	for i, x := range l {
		orders(slices.Concat(l[:i], l[i+1:]), func(rest []T) { f(append([]T{x}, rest...)) })
	}
}

// full returns a chunk of the patch from 3 to 4, with as many bytes as there may be.
func full(n, of int) api.Chunk {
	return api.Chunk{From: 3, To: 4, N: n, Of: of, Data: rising(16, byte(n))}
}

// sized returns a chunk of the patch from 3 to 4 with that many bytes.
func sized(n, of, size int) api.Chunk {
	return api.Chunk{From: 3, To: 4, N: n, Of: of, Data: rising(size, byte(n))}
}

func chunks(l ...api.Chunk) []api.Chunk { return l }

// with returns c after a change.
func with(c api.Chunk, change func(*api.Chunk)) api.Chunk {
	c.Data = bytes.Clone(c.Data)
	change(&c)
	return c
}

// withAll returns the list after a change of each chunk.
func withAll(l []api.Chunk, change func(*api.Chunk)) []api.Chunk {
	var out []api.Chunk
	for _, c := range l {
		out = append(out, with(c, change))
	}
	return out
}

// cloned returns the list with memory of its own.
func cloned(l []api.Chunk) []api.Chunk { return withAll(l, func(*api.Chunk) {}) }

// plain says whether two lists agree, field by field.
func plain(a, b []api.Chunk) bool {
	if len(a) != len(b) {
		return false
	}
	for i, x := range a {
		y := b[i]
		if x.From != y.From || x.To != y.To || x.N != y.N || x.Of != y.Of || string(x.Data) != string(y.Data) {
			return false
		}
	}
	return true
}

// split returns the chunks of these bytes, be they a packed patch or not.
func split(from, to int, b []byte) []api.Chunk {
	var l []api.Chunk
	for part := range slices.Chunk(b, 16) {
		l = append(l, api.Chunk{From: from, To: to, N: len(l), Data: bytes.Clone(part)})
	}
	return withAll(l, func(c *api.Chunk) { c.Of = len(l) })
}

// inserting returns a patch from 3 to 4 that inserts n bytes, and has no run that Pack could shorten.
func inserting(n int) api.Patch {
	p := api.Patch{From: 3, To: 4, Old: 0x0102, New: 0xf0f1, Size: n}
	if n > 0 {
		p.Ops = []api.Op{{Data: rising(n, 100)}}
	}
	return p
}

// longest returns the patch with the most bytes: as many steps as there may be, and nothing copied.
func longest() api.Patch {
	p := inserting(64)
	p.Ops = nil
	for i := range byte(39) {
		p.Ops = append(p.Ops, api.Op{Data: []byte{100 + i}})
	}
	p.Ops = append(p.Ops, api.Op{Data: rising(25, 150)})
	return p
}

// somePatch returns a valid patch; some of its bytes can be packed.
func somePatch(next func(int) int) api.Patch {
	p := api.Patch{From: 1 + next(30), To: 1 + next(30), Old: next(65536), New: next(65536)}
	for range next(41) {
		n := 1 + next(1+next(16))
		if p.Size+n > 64 {
			break
		}
		p.Size += n
		switch next(3) {
		case 0:
			p.Ops = append(p.Ops, api.Op{Data: rising(n, byte(next(256)))})
		case 1:
			p.Ops = append(p.Ops, api.Op{Data: bytes.Repeat([]byte{byte(next(256))}, n)})
		default:
			p.Ops = append(p.Ops, api.Op{At: next(64 - n + 1), Len: n})
		}
	}
	return p
}

// slowCheck goes through the fields one by one.
func slowCheck(c api.Chunk) api.Errno {
	for _, version := range []int{c.From, c.To} {
		if version < 1 || version > 30 {
			return api.ErrRange
		}
	}
	if c.Of < 1 || c.Of > 52 || c.N < 0 || c.N > c.Of-1 {
		return api.ErrRange
	}
	if len(c.Data) == 0 || len(c.Data) > 16 {
		return api.ErrForm
	}
	if len(c.Data) != 16 && c.N+1 != c.Of {
		return api.ErrForm
	}
	return api.OK
}

// slowList compares each chunk with all before it.
func slowList(l []api.Chunk) api.Errno {
	for i, c := range l {
		if e := slowCheck(c); e != api.OK {
			return e
		}
		for _, b := range l[:i] {
			if b.From != c.From || b.To != c.To || b.Of != c.Of || b.N >= c.N {
				return api.ErrForm
			}
		}
	}
	return api.OK
}

// slowAdd puts the chunks into places by their numbers, and collects them from there.
func slowAdd(l []api.Chunk, c api.Chunk) ([]api.Chunk, api.Errno) {
	if e := slowList(l); e != api.OK {
		return nil, e
	}
	if e := slowCheck(c); e != api.OK {
		return nil, e
	}
	places := map[int]api.Chunk{c.N: c}
	for _, x := range l {
		if x.From == c.From && x.To == c.To && x.Of == c.Of {
			places[x.N] = x
		}
	}
	var out []api.Chunk
	for n := range 52 {
		if x, ok := places[n]; ok {
			out = append(out, x)
		}
	}
	return out, api.OK
}

// slowJoin goes through the errors of P8.3 one by one, and unpacks byte by byte.
func slowJoin(l []api.Chunk) (api.Patch, api.Errno) {
	if e := slowList(l); e != api.OK {
		return api.Patch{}, e
	}
	if len(l) == 0 || len(l) != l[0].Of {
		return api.Patch{}, api.ErrLate
	}
	var b, out []byte
	for _, c := range l {
		b = append(b, c.Data...)
	}
	for i := 0; i < len(b); {
		n, used := int(b[i]), int(b[i])
		if n >= 128 {
			n, used = n-128, 1
		}
		if n == 0 {
			return api.Patch{}, api.ErrForm
		}
		if i+used >= len(b) {
			return api.Patch{}, api.ErrTorn
		}
		if len(out)+n > 400 {
			return api.Patch{}, api.ErrMany
		}
		for k := range n {
			out = append(out, b[i+1+k%used])
		}
		i += 1 + used
	}
	p, e := patch.Read(out)
	if e == api.OK && (p.From != l[0].From || p.To != l[0].To) {
		return api.Patch{}, api.ErrForm
	}
	return p, e
}

// isNone says whether a patch is zero.
func isNone(p api.Patch) bool { return patch.Same(p, api.Patch{}) }

func checkChunk(t *testing.T, c api.Chunk, want api.Errno) {
	t.Helper()
	if e := Check(c); e != want {
		t.Errorf("Check(%v) = %d, want %d", c, e, want)
	}
}

func checkList(t *testing.T, l []api.Chunk, want api.Errno) {
	t.Helper()
	if e := List(l); e != want {
		t.Errorf("List(%v) = %d, want %d", l, e, want)
	}
}

func checkAdd(t *testing.T, l []api.Chunk, c api.Chunk, want []api.Chunk, wantError api.Errno) {
	t.Helper()
	got, e := Add(l, c)
	if e != wantError || !plain(got, want) {
		t.Errorf("Add(%v, %v) = %v, %d, want %v, %d", l, c, got, e, want, wantError)
	}
}

func checkJoin(t *testing.T, l []api.Chunk, want api.Patch, wantError api.Errno) {
	t.Helper()
	p, e := Join(l)
	if e != wantError || !patch.Same(p, want) {
		t.Errorf("Join(%v) = %v, %d, want %v, %d", l, p, e, want, wantError)
	}
}

// checkSlow compares List, Add and Join with their slower versions.
func checkSlow(t *testing.T, l []api.Chunk, c api.Chunk) {
	t.Helper()
	checkChunk(t, c, slowCheck(c))
	checkList(t, l, slowList(l))
	added, e := slowAdd(l, c)
	checkAdd(t, l, c, added, e)
	p, e := slowJoin(l)
	checkJoin(t, l, p, e)
}

// checkRefused says whether List, Add and Join all return the error of List, and nothing with it.
func checkRefused(t *testing.T, l []api.Chunk, want api.Errno) {
	t.Helper()
	checkList(t, l, want)
	checkAdd(t, l, full(0, 2), nil, want)
	checkAdd(t, l, sized(0, 1, 1), nil, want)
	checkAdd(t, l, api.Chunk{}, nil, want) // though the chunk is refused too
	checkAdd(t, l, full(0, 53), nil, want)
	checkAdd(t, l, sized(0, 2, 15), nil, want)
	checkJoin(t, l, api.Patch{}, want)
}

func TestCheck(t *testing.T) { // P8.1
	for _, c := range chunks(full(0, 1), full(0, 2), full(1, 2), sized(1, 2, 1), sized(0, 1, 1), full(0, 52), full(51, 52), sized(51, 52, 15)) {
		checkChunk(t, c, api.OK)
	}
	for _, c := range chunks(api.Chunk{}, full(0, 0), full(1, 1), full(2, 2), full(-1, 2), full(0, 53), full(52, 53), full(52, 52)) {
		checkChunk(t, c, api.ErrRange)
	}
	for _, c := range chunks(sized(0, 1, 0), sized(0, 1, 17), sized(0, 2, 0), sized(0, 2, 15), sized(0, 2, 17), sized(1, 2, 0), sized(1, 2, 17)) {
		checkChunk(t, c, api.ErrForm)
	}
	checkChunk(t, api.Chunk{From: 1, To: 1, Of: 1}, api.ErrForm)
	checkChunk(t, api.Chunk{From: 1, To: 1, Of: 1, Data: []byte{}}, api.ErrForm)
	checkChunk(t, api.Chunk{From: 30, To: 1, Of: 1, Data: []byte{0}}, api.OK) // to a lower version
}

// extremes are values that no field may have.
func extremes() []int {
	return []int{-1, -2, -16, 53, 54, 255, 256, 257, math.MaxInt32, math.MinInt32, 1 << 32, 1<<32 + 1, math.MaxInt, math.MaxInt - 1, math.MinInt, math.MinInt + 1}
}

func TestVersions(t *testing.T) { // P8.1: from 1 to api.MaxVersion
	values := extremes()
	for n := range 40 {
		values = append(values, n)
	}
	for _, n := range values {
		want := api.ErrRange
		if n >= 1 && n <= 30 {
			want = api.OK
		}
		for _, other := range []int{1, 2, 29, 30} {
			checkChunk(t, with(full(0, 2), func(c *api.Chunk) { c.From, c.To = n, other }), want)
			checkChunk(t, with(full(0, 2), func(c *api.Chunk) { c.From, c.To = other, n }), want)
		}
	}
}

func TestNumbers(t *testing.T) { // P8.1: Of from 1 to api.MaxChunks, N from 0 to Of - 1
	values := extremes()
	for n := range 60 {
		values = append(values, n)
	}
	for _, of := range values {
		for _, n := range values {
			want := api.ErrRange
			if 1 <= of && of <= 52 && 0 <= n && n < of {
				want = api.OK
			}
			checkChunk(t, full(n, of), want)
		}
	}
}

func TestData(t *testing.T) { // P8.1: 1 to api.ChunkSize bytes, and just as many if it is not the last chunk
	for _, of := range []int{1, 2, 3, 51, 52} {
		for n := range of {
			for size := range 40 {
				want := api.ErrForm
				if size == 16 || n == of-1 && size > 0 && size < 16 {
					want = api.OK
				}
				checkChunk(t, sized(n, of, size), want)
			}
			checkChunk(t, sized(n, of, 100000), api.ErrForm)
			checkChunk(t, sized(n, of, 256+16), api.ErrForm)
		}
	}
	roomy := with(full(0, 2), func(c *api.Chunk) { c.Data = c.Data[:15] }) // the missing byte lies in the spare capacity
	checkChunk(t, roomy, api.ErrForm)
}

// wrongFields are chunks with one field that makes for ErrRange, whatever Data is.
func wrongFields(c api.Chunk) []api.Chunk {
	var l []api.Chunk
	for _, n := range extremes() {
		l = append(l,
			with(c, func(c *api.Chunk) { c.From = n }),
			with(c, func(c *api.Chunk) { c.To = n }),
			with(c, func(c *api.Chunk) { c.Of = n }),
			with(c, func(c *api.Chunk) { c.N = n }))
	}
	return append(l,
		with(c, func(c *api.Chunk) { c.From = 0 }),
		with(c, func(c *api.Chunk) { c.From = 31 }),
		with(c, func(c *api.Chunk) { c.To = 0 }),
		with(c, func(c *api.Chunk) { c.To = 31 }),
		with(c, func(c *api.Chunk) { c.Of = 0 }),
		with(c, func(c *api.Chunk) { c.Of = c.N }),
		with(c, func(c *api.Chunk) { c.N = c.Of }))
}

// wrongData are chunks that are refused for their Data alone.
func wrongData() []api.Chunk {
	return chunks(sized(0, 1, 0), sized(0, 1, 17), sized(0, 2, 0), sized(0, 2, 1), sized(0, 2, 15), sized(0, 2, 17), sized(1, 3, 15), sized(1, 2, 0), sized(1, 2, 17), sized(51, 52, 17), sized(50, 52, 15))
}

func TestRangeBeforeData(t *testing.T) { // P8.1, P3: errors of both at once
	for _, w := range wrongData() {
		checkChunk(t, w, api.ErrForm)
		for _, c := range wrongFields(w) {
			checkChunk(t, c, api.ErrRange)
		}
	}
}

func TestEveryField(t *testing.T) { // P8.1; P1: no panic
	values := []int{0, 1, 2, 30, 31, 51, 52, 53, -1, math.MaxInt, math.MinInt}
	l := chunks(full(0, 2), sized(1, 2, 5))
	for _, from := range values {
		for _, to := range values {
			for _, of := range values {
				for _, n := range values {
					for _, size := range []int{0, 1, 15, 16, 17} {
						c := api.Chunk{From: from, To: to, N: n, Of: of, Data: rising(size, 1)}
						checkSlow(t, l, c)
						checkSlow(t, chunks(c), l[0])
						if !Same(chunks(c), chunks(c)) || Same(chunks(c), l) {
							t.Fatalf("Same of %v", c)
						}
					}
				}
			}
		}
	}
}

func TestList(t *testing.T) { // P8.1
	checkList(t, nil, api.OK)
	checkList(t, chunks(), api.OK)
	var all []api.Chunk
	for n := range 52 {
		all = append(all, full(n, 52))
		checkList(t, all, api.OK)
		checkList(t, all[n:], api.OK)
		checkList(t, chunks(full(n, 52), full(51, 52))[:min(2, 52-n)], api.OK)
	}
	checkList(t, chunks(full(0, 2), sized(1, 2, 1)), api.OK)
	checkList(t, chunks(full(0, 5), full(2, 5), sized(4, 5, 3)), api.OK) // some are missing
	checkList(t, chunks(sized(4, 5, 3)), api.OK)
	checkList(t, chunks(with(full(0, 2), func(c *api.Chunk) { c.Data = make([]byte, 16) }), full(1, 2)), api.OK) // whatever the bytes are
	for _, c := range append(wrongFields(full(1, 3)), wrongData()...) {
		want := Check(c)
		checkRefused(t, chunks(c), want)
		checkRefused(t, chunks(full(0, 3), c), want)
		checkRefused(t, chunks(c, full(2, 3)), want)
	}
}

func TestListOfSeveralPatches(t *testing.T) { // P8.1
	for _, change := range []func(*api.Chunk){
		func(c *api.Chunk) { c.From = 2 },
		func(c *api.Chunk) { c.To = 3 },
		func(c *api.Chunk) { c.Of = 5 },
		func(c *api.Chunk) { c.Of = 6; c.From = 4; c.To = 3 },
		func(c *api.Chunk) { c.From, c.To = c.To, c.From },
	} {
		for n := range 3 {
			l := chunks(full(0, 4), full(1, 4), full(2, 4), full(3, 4))
			checkList(t, withAll(l, change), api.OK)
			l[n] = with(l[n], change)
			checkRefused(t, l, api.ErrForm)
			checkRefused(t, l[:max(2, n+1)], api.ErrForm)
		}
	}
}

func TestListOrder(t *testing.T) { // P8.1: N rises
	orders([]int{0, 1, 2, 3}, func(order []int) {
		var l []api.Chunk
		for _, n := range order {
			l = append(l, full(n, 4))
		}
		for n := range 5 {
			want := api.ErrForm
			if slices.IsSorted(order[:n]) {
				want = api.OK
			}
			checkList(t, l[:n], want)
		}
	})
	checkRefused(t, chunks(full(0, 2), full(0, 2)), api.ErrForm) // twice the same
	checkRefused(t, chunks(full(1, 2), full(1, 2)), api.ErrForm)
	checkRefused(t, chunks(full(0, 3), full(2, 3), full(1, 3)), api.ErrForm)
	checkRefused(t, chunks(full(0, 3), full(1, 3), full(1, 3)), api.ErrForm)
	checkRefused(t, chunks(full(1, 3), full(2, 3), full(0, 3)), api.ErrForm)
	checkRefused(t, slices.Repeat(chunks(full(0, 1)), 1000), api.ErrForm)
}

func TestListFirstError(t *testing.T) { // P8.1, P3: that of Check before the other one, those of one chunk before those of the next
	badRange := with(full(0, 3), func(c *api.Chunk) { c.To = 31 })
	other := with(full(2, 3), func(c *api.Chunk) { c.From = 9 })
	checkRefused(t, chunks(full(1, 3), badRange), api.ErrRange) // N is not greater, either
	checkRefused(t, chunks(full(1, 3), full(3, 3)), api.ErrRange)
	checkRefused(t, chunks(full(1, 3), full(2, 53)), api.ErrRange) // Of differs, too
	checkRefused(t, chunks(full(0, 3), with(other, func(c *api.Chunk) { c.To = 0 })), api.ErrRange)
	checkRefused(t, chunks(sized(0, 3, 15), badRange), api.ErrForm)
	checkRefused(t, chunks(badRange, sized(1, 3, 15)), api.ErrRange)
	checkRefused(t, chunks(full(0, 3), other, badRange), api.ErrForm)
	checkRefused(t, chunks(full(1, 3), full(0, 3), badRange), api.ErrForm)
	checkRefused(t, chunks(full(1, 3), badRange, other), api.ErrRange)
	checkRefused(t, chunks(badRange, full(1, 3), full(0, 3)), api.ErrRange)
}

// variants are lists that all differ.
func variants() [][]api.Chunk {
	l := chunks(full(0, 3), full(1, 3), sized(2, 3, 5))
	all := [][]api.Chunk{nil, l, l[:2], l[1:], l[:1], chunks(api.Chunk{}), make([]api.Chunk, 2), make([]api.Chunk, 1000), append(cloned(l), api.Chunk{})}
	for i := range l {
		for _, n := range append(extremes(), 7) {
			for _, change := range []func(*api.Chunk){
				func(c *api.Chunk) { c.From = n },
				func(c *api.Chunk) { c.To = n },
				func(c *api.Chunk) { c.N = n },
				func(c *api.Chunk) { c.Of = n },
			} {
				v := cloned(l)
				change(&v[i])
				all = append(all, v)
			}
		}
		for _, change := range []func(*api.Chunk){
			func(c *api.Chunk) { c.Data = nil },
			func(c *api.Chunk) { c.Data[0]++ },
			func(c *api.Chunk) { c.Data[len(c.Data)-1]++ },
			func(c *api.Chunk) { c.Data = c.Data[1:] },
			func(c *api.Chunk) { c.Data = c.Data[:len(c.Data)-1] },
			func(c *api.Chunk) { c.Data = append(c.Data, 0) },
			func(c *api.Chunk) { c.Data = make([]byte, 1000) },
			func(c *api.Chunk) { c.From, c.To = c.To, c.From },
		} {
			v := cloned(l)
			change(&v[i])
			all = append(all, v)
		}
	}
	return append(all, chunks(l[1], l[0], l[2]), chunks(l[0], l[2], l[1]), chunks(l[0], l[0], l[1]))
}

func TestSame(t *testing.T) { // P8.1: valid or not
	l := variants()
	for i, a := range l {
		for j, b := range l {
			if Same(a, cloned(b)) != (i == j) {
				t.Errorf("Same(%v, %v) = %v", a, b, i != j)
			}
		}
	}
}

func TestSameWithEmptyLists(t *testing.T) { // P2: nil or empty
	none, empty := chunks(api.Chunk{From: 1}), chunks(api.Chunk{From: 1, Data: []byte{}})
	if !Same(nil, chunks()) || !Same(chunks(), nil) || !Same(nil, nil) {
		t.Errorf("lists nil and empty: not the same")
	}
	if !Same(none, empty) || !Same(empty, none) {
		t.Errorf("Data nil and empty: not the same")
	}
}

// checkCut says whether a patch has these chunks, and is joined from them.
func checkCut(t *testing.T, p api.Patch, want []api.Chunk) {
	t.Helper()
	l, e := Cut(p)
	if e != api.OK || !plain(l, want) {
		t.Errorf("Cut(%v) = %v, %d, want %v, 0", p, l, e, want)
	}
	checkList(t, l, api.OK)
	checkJoin(t, want, p, api.OK)
}

func TestCutExamples(t *testing.T) { // P8.2: chunks that are written out
	p, _ := patch.Make(1, 2, []byte("abcdefgh"), []byte("xefghabcd"))
	checkCut(t, p, chunks(api.Chunk{From: 1, To: 2, N: 0, Of: 1, Data: []byte{15, 1, 2, 128, 244, 182, 115, 9, 3, 255, 1, 'x', 4, 4, 0, 4}}))
	p = api.Patch{From: 7, To: 6, Old: 0x0102, New: 0x0304, Size: 9, Ops: []api.Op{{At: 1, Len: 2}, {At: 5, Len: 3}, {Data: []byte("qqqq")}}}
	checkCut(t, p, chunks( // the length of a run ends one chunk, its byte is the next one
		api.Chunk{From: 7, To: 6, N: 0, Of: 2, Data: []byte{14, 7, 6, 1, 2, 3, 4, 9, 3, 1, 2, 5, 3, 255, 4, 132}},
		api.Chunk{From: 7, To: 6, N: 1, Of: 2, Data: []byte("q")}))
}

func TestCutLengths(t *testing.T) { // P8.2: from a few bytes to several chunks; those that fill the last chunk
	checkCut(t, api.Patch{From: 1, To: 1, Old: 257, New: 257}, chunks(api.Chunk{From: 1, To: 1, Of: 1, Data: []byte{134, 1, 2, 0, 0}}))
	checkCut(t, inserting(0), chunks(api.Chunk{From: 3, To: 4, Of: 1, Data: []byte{8, 3, 4, 1, 2, 0xf0, 0xf1, 0, 0}}))
	for n := 1; n <= 64; n++ {
		b := slices.Concat([]byte{byte(10 + n), 3, 4, 1, 2, 0xf0, 0xf1, byte(n), 1, 255, byte(n)}, rising(n, 100))
		l := split(3, 4, b)
		if want := []int{1, 2, 3, 4, 5}[(n+10)/16]; len(l) != want {
			t.Fatalf("%d bytes make %d chunks, want %d", len(b), len(l), want)
		}
		checkCut(t, inserting(n), l)
	}
	for n, of := range map[int]int{5: 1, 6: 2, 21: 2, 22: 3, 37: 3, 38: 4, 53: 4, 54: 5} {
		l, _ := Cut(inserting(n))
		last := 16
		if n%16 == 6 {
			last = 1
		}
		if len(l) != of || len(l[of-1].Data) != last {
			t.Errorf("Cut of %d inserted bytes: %v, want %d chunks, the last one with %d bytes", n, l, of, last)
		}
	}
}

func TestCutVersions(t *testing.T) { // P8.2: each of them
	for from := 1; from <= 30; from++ {
		for to := 1; to <= 30; to++ {
			p := inserting(30)
			p.From, p.To = from, to
			l, e := Cut(p)
			if e != api.OK || len(l) != 3 {
				t.Fatalf("Cut(%v) = %v, %d, want 3 chunks, 0", p, l, e)
			}
			for n, c := range l {
				if c.From != from || c.To != to || c.N != n || c.Of != 3 {
					t.Errorf("Cut(%v): chunk %d is %v", p, n, c)
				}
			}
			checkJoin(t, l, p, api.OK)
		}
	}
}

func TestCutIsPacked(t *testing.T) { // P8.2: pack.Pack of patch.Put; P8.4
	next := numbers(1)
	for range 20000 {
		p := somePatch(next)
		b, _ := patch.Put(p)
		checkCut(t, p, split(p.From, p.To, pack.Pack(b)))
	}
}

func TestLongestPatch(t *testing.T) { // P8.2: no patch makes more than api.MaxChunks chunks; its bytes are 152, and what Pack adds
	l, e := Cut(longest())
	if e != api.OK || len(l) != 10 || len(l) > api.MaxChunks || len(l[9].Data) != 154-9*16 {
		t.Errorf("Cut(%v) = %v, %d, want 10 chunks of 154 bytes, 0", longest(), l, e)
	}
	checkJoin(t, l, longest(), api.OK)
}

// wrongPatches are what patch.Put refuses, and its error.
func wrongPatches() map[api.Errno][]api.Patch {
	change := func(f func(*api.Patch)) api.Patch {
		p := inserting(30)
		f(&p)
		return p
	}
	l := map[api.Errno][]api.Patch{
		api.ErrForm: {
			change(func(p *api.Patch) { p.Size = 31 }),
			change(func(p *api.Patch) { p.Ops = nil }),
			change(func(p *api.Patch) { p.Ops[0].Data = nil }),
			change(func(p *api.Patch) { p.Ops[0].At = 1 }),
		},
		api.ErrMany: {
			change(func(p *api.Patch) { p.Size = 29 }),
			change(func(p *api.Patch) { p.Size = 65 }),
			change(func(p *api.Patch) { p.Ops = slices.Repeat([]api.Op{{Len: 1}}, 41) }),
			change(func(p *api.Patch) { p.Ops = make([]api.Op, 1000) }), // no chunks could hold them
		},
		api.ErrRange: {
			{},
			change(func(p *api.Patch) { p.From = 0 }),
			change(func(p *api.Patch) { p.To = 31 }),
			change(func(p *api.Patch) { p.To = 31; p.Size = 65 }),
			change(func(p *api.Patch) { p.From = 0; p.Ops = make([]api.Op, 1000) }),
			change(func(p *api.Patch) { p.Ops[0] = api.Op{At: 64, Len: 1} }),
		},
	}
	for _, n := range []int{-1, 65536, math.MaxInt, math.MinInt} {
		l[api.ErrRange] = append(l[api.ErrRange],
			change(func(p *api.Patch) { p.From = n }),
			change(func(p *api.Patch) { p.To = n }),
			change(func(p *api.Patch) { p.Old = n }),
			change(func(p *api.Patch) { p.New = n }),
			change(func(p *api.Patch) { p.Ops[0] = api.Op{At: n, Len: 1} }),
			change(func(p *api.Patch) { p.Ops[0] = api.Op{Len: n} }))
		l[api.ErrMany] = append(l[api.ErrMany], change(func(p *api.Patch) { p.Size = n }))
	}
	return l
}

func TestCutRefuses(t *testing.T) { // P8.2, P3: the error of patch.Put, and no chunks
	for want, l := range wrongPatches() {
		for _, p := range l {
			if got, e := Cut(p); e != want || len(got) != 0 {
				t.Errorf("Cut(%v) = %v, %d, want none, %d", p, got, e, want)
			}
		}
	}
}

func TestAddEveryList(t *testing.T) { // P8.2: each chunk to each list of chunks of a patch
	for set := range 1 << 5 {
		var l []api.Chunk
		for n := range 5 {
			if set>>n&1 == 1 {
				l = append(l, full(n, 5))
			}
		}
		for n := range 5 {
			c := full(n, 5)
			want, _ := slowAdd(l, c)
			if len(want) != len(l)+1-set>>n&1 || !slices.IsSortedFunc(want, func(a, b api.Chunk) int { return a.N - b.N }) {
				t.Fatalf("slowAdd(%v, %v) = %v", l, c, want)
			}
			checkAdd(t, l, c, want, api.OK)
			got, _ := Add(l, c)
			checkAdd(t, got, c, want, api.OK) // once more
			checkSlow(t, l, sized(4, 5, 1+n))
		}
	}
}

func TestAddToNone(t *testing.T) { // P8.2
	for _, c := range chunks(full(0, 1), sized(0, 1, 1), full(0, 2), full(51, 52), sized(1, 2, 5)) {
		checkAdd(t, nil, c, chunks(c), api.OK)
		checkAdd(t, chunks(), c, chunks(c), api.OK)
	}
}

func TestAddSameNumber(t *testing.T) { // P8.2: the list stays, whatever Data is
	l := chunks(full(0, 4), full(1, 4), sized(3, 4, 5))
	for i, c := range l {
		checkAdd(t, l, c, l, api.OK)
		checkAdd(t, l, with(c, func(c *api.Chunk) { c.Data[0]++ }), l, api.OK)
		checkAdd(t, l, with(c, func(c *api.Chunk) { c.Data = make([]byte, 16) }), l, api.OK)
		checkAdd(t, l[i:i+1], with(c, func(c *api.Chunk) { c.Data[4]++ }), l[i:i+1], api.OK)
	}
	checkAdd(t, l, sized(3, 4, 1), l, api.OK)
	checkAdd(t, l, full(3, 4), l, api.OK)
}

func TestAddOfAnotherPatch(t *testing.T) { // P8.2: only the chunk stays
	for _, l := range [][]api.Chunk{chunks(full(0, 4)), chunks(full(2, 4)), chunks(full(0, 4), full(1, 4), sized(3, 4, 5)), chunks(full(0, 4), full(1, 4), full(2, 4), full(3, 4))} {
		for n := range 4 {
			for _, c := range chunks(
				with(full(n, 4), func(c *api.Chunk) { c.From = 2 }),
				with(full(n, 4), func(c *api.Chunk) { c.To = 3 }),
				with(full(n, 4), func(c *api.Chunk) { c.From, c.To = c.To, c.From }),
				full(n, 5),
				full(n, 52),
				full(0, n+5),
				full(min(n, 2), 3),
			) {
				checkAdd(t, l, c, chunks(c), api.OK)
			}
		}
	}
}

func TestAddRefuses(t *testing.T) { // P8.2, P3: the error of the list before that of the chunk; no list with it
	good := chunks(full(0, 3), full(1, 3))
	wrong := append(wrongFields(full(2, 3)), wrongData()...)
	for _, c := range wrong {
		want := Check(c)
		checkAdd(t, nil, c, nil, want)
		checkAdd(t, good, c, nil, want)
		checkAdd(t, chunks(c), full(0, 3), nil, want)
		checkAdd(t, chunks(good[1], good[0]), c, nil, api.ErrForm) // the list has ErrForm
		checkAdd(t, chunks(with(good[0], func(c *api.Chunk) { c.From = 0 })), c, nil, api.ErrRange)
		for _, d := range wrong {
			checkAdd(t, chunks(d), c, nil, Check(d))
		}
	}
	// The chunk is refused though its N is there, or it is of another patch.
	checkAdd(t, good, sized(1, 3, 0), nil, api.ErrForm)
	checkAdd(t, good, sized(1, 3, 15), nil, api.ErrForm)
	checkAdd(t, good, with(sized(1, 3, 17), func(c *api.Chunk) { c.From = 4 }), nil, api.ErrForm)
	checkAdd(t, good, with(full(1, 3), func(c *api.Chunk) { c.From = 31 }), nil, api.ErrRange)
	// The list is refused though the chunk is of another patch, and would be alone in the result.
	checkAdd(t, chunks(good[1], good[0]), full(0, 4), nil, api.ErrForm)
	checkAdd(t, chunks(good[0], with(good[1], func(c *api.Chunk) { c.To = 0 })), full(0, 4), nil, api.ErrRange)
	checkAdd(t, chunks(good[0], with(good[1], func(c *api.Chunk) { c.To = 9 })), full(2, 3), nil, api.ErrForm)
	// The list is refused though the N of the chunk is there.
	checkAdd(t, chunks(good[0], good[1], good[1]), good[1], nil, api.ErrForm)
	checkAdd(t, slices.Repeat(chunks(full(0, 3)), 53), full(0, 3), nil, api.ErrForm)
	checkAdd(t, make([]api.Chunk, 1000), full(0, 3), nil, api.ErrRange)
	checkAdd(t, chunks(sized(0, 3, 15), good[1]), with(good[1], func(c *api.Chunk) { c.N = 9 }), nil, api.ErrForm)
}

func TestAddMostChunks(t *testing.T) { // P8.2: just api.MaxChunks, in several orders
	var all []api.Chunk
	for n := range 52 {
		all = append(all, full(n, 52))
	}
	next := numbers(2)
	for range 50 {
		var l []api.Chunk
		for i, c := range shuffled(next, all) {
			want, _ := slowAdd(l, c)
			checkAdd(t, l, c, want, api.OK)
			if l, _ = Add(l, c); len(l) != i+1 {
				t.Fatalf("%d chunks, want %d", len(l), i+1)
			}
		}
		if !plain(l, all) {
			t.Fatalf("all chunks are %v", l)
		}
		checkAdd(t, l, all[next(52)], all, api.OK)
		checkAdd(t, l, full(52, 53), nil, api.ErrRange)
		checkAdd(t, l, full(52, 52), nil, api.ErrRange)
	}
}

// checkOrder adds the chunks of a patch in an order, and joins them; before the last one comes, that is too early.
func checkOrder(t *testing.T, p api.Patch, l []api.Chunk, order []int) {
	t.Helper()
	var got []api.Chunk
	var e api.Errno
	seen := map[int]bool{}
	for _, n := range order {
		if got, e = Add(got, l[n]); e != api.OK {
			t.Fatalf("Add(%v) = %d", l[n], e)
		}
		seen[n] = true
		if len(got) != len(seen) {
			t.Fatalf("after %v: %v", order, got)
		}
		if len(seen) < len(l) {
			checkJoin(t, got, api.Patch{}, api.ErrLate)
		} else {
			checkJoin(t, got, p, api.OK)
		}
	}
	if !plain(got, l) || !Same(got, l) {
		t.Fatalf("in the order %v: %v, want %v", order, got, l)
	}
}

func TestJoinInEveryOrder(t *testing.T) { // P8.4
	for _, n := range []int{0, 5, 6, 21, 22, 37, 40, 53, 64} {
		p := inserting(n)
		l, _ := Cut(p)
		order := make([]int, len(l))
		for i := range order {
			order[i] = i
		}
		orders(order, func(order []int) {
			checkOrder(t, p, l, order)
			checkOrder(t, p, l, slices.Concat(order[:1], order, order)) // some come more than once
		})
	}
}

func TestJoinInSomeOrder(t *testing.T) { // P8.4: patches of all kinds, chunks that come more than once
	next := numbers(3)
	for i := range 3000 {
		p := somePatch(next)
		if i%10 == 0 {
			p = longest()
		}
		l, _ := Cut(p)
		var order []int
		for n := range l {
			order = append(order, n)
			for next(3) == 0 {
				order = append(order, next(len(l)))
			}
		}
		checkOrder(t, p, l, shuffled(next, order))
	}
}

func TestJoinAfterAnotherPatch(t *testing.T) { // P8.4, P8.2: chunks of another one give way, and come again
	a, b := inserting(64), inserting(50)
	b.From = 9
	la, _ := Cut(a)
	lb, _ := Cut(b)
	var got []api.Chunk
	for _, c := range slices.Concat(la[1:4], lb[:3], la, lb[2:], lb[:2]) {
		got, _ = Add(got, c)
		if plain(got, la) {
			checkJoin(t, got, a, api.OK)
		}
	}
	checkJoin(t, got, b, api.OK)
}

func TestJoinNothing(t *testing.T) { // P8.3: the chapter's example
	checkJoin(t, nil, api.Patch{}, api.ErrLate)
	checkJoin(t, chunks(), api.Patch{}, api.ErrLate)
}

func TestJoinTooEarly(t *testing.T) { // P8.3: any chunks are missing
	for _, p := range []api.Patch{inserting(64), longest()} {
		l, _ := Cut(p)
		for set := range 1<<len(l) - 1 {
			var some []api.Chunk
			for n, c := range l {
				if set>>n&1 == 1 {
					some = append(some, c)
				}
			}
			checkJoin(t, some, api.Patch{}, api.ErrLate)
		}
	}
}

// eachAlone packs bytes with a length byte before each of them, which Pack would not do.
func eachAlone(mark byte, b []byte) []byte {
	var out []byte
	for _, x := range b {
		out = append(out, mark, x)
	}
	return out
}

func TestJoinOtherPacking(t *testing.T) { // P8.3: whatever pack.Unpack takes
	next := numbers(4)
	for _, p := range []api.Patch{inserting(0), inserting(20), longest(), somePatch(next)} {
		b, _ := patch.Put(p)
		checkJoin(t, split(p.From, p.To, eachAlone(1, b)), p, api.OK)
		checkJoin(t, split(p.From, p.To, eachAlone(129, b)), p, api.OK)
	}
}

// put returns the bytes of a patch.
func put(p api.Patch) []byte {
	b, _ := patch.Put(p)
	return b
}

func TestJoinRefuses(t *testing.T) { // P8.3, P3: each error, alone and with those behind it
	good := put(inserting(30))
	noVersion := slices.Concat([]byte{0}, good[1:])
	noLength := []byte{3, 4, 0, 1, 0, 1, 1, 1, 7, 0}
	for i, c := range []struct {
		from, to int
		packed   []byte
		want     api.Errno
	}{
		{3, 4, []byte{0}, api.ErrForm},   // pack.Unpack
		{3, 4, []byte{128}, api.ErrForm}, // before bytes that are missing
		{3, 4, []byte{1}, api.ErrTorn},
		{3, 4, []byte{129}, api.ErrTorn},
		{3, 4, []byte{127, 7}, api.ErrTorn},
		{3, 4, []byte{2, 3}, api.ErrTorn},
		{3, 4, append(pack.Pack(good), 0), api.ErrForm},
		{3, 4, append(pack.Pack(good), 5, 5), api.ErrTorn},
		{5, 6, append(pack.Pack(good), 5, 5), api.ErrTorn},           // then other versions
		{3, 4, append(pack.Pack(noLength), 128), api.ErrForm},        // then patch.Read
		{3, 4, append(pack.Pack(noLength), 129), api.ErrTorn},        // then patch.Read
		{3, 4, append(pack.Pack(noVersion), 0), api.ErrForm},         // then patch.Read
		{3, 4, append(pack.Pack(make([]byte, 401)), 0), api.ErrMany}, // the length byte that comes first
		{3, 4, append([]byte{0}, pack.Pack(make([]byte, 401))...), api.ErrForm},
		{3, 4, []byte{1, 7}, api.ErrTorn}, // patch.Read
		{3, 4, pack.Pack(good[:len(good)-1]), api.ErrTorn},
		{3, 4, pack.Pack(append(good[:len(good):len(good)], 9)), api.ErrTorn},
		{3, 4, pack.Pack(noLength), api.ErrForm},
		{3, 4, pack.Pack(noVersion), api.ErrRange},
		{3, 4, pack.Pack([]byte{3, 4, 0, 1, 0, 1, 65, 0}), api.ErrMany},
		{3, 4, pack.Pack([]byte{3, 4, 0, 1, 0, 1, 1, 0}), api.ErrForm},
		{3, 4, pack.Pack([]byte{3, 31, 0, 1, 0, 1, 0, 0}), api.ErrRange},
		{5, 6, pack.Pack(good[:9]), api.ErrTorn}, // then other versions
		{5, 6, pack.Pack(noVersion), api.ErrRange},
		{5, 6, pack.Pack([]byte{3, 4, 0, 1, 0, 1, 65, 0}), api.ErrMany},
		{3, 5, pack.Pack(good), api.ErrForm}, // other versions
		{2, 4, pack.Pack(good), api.ErrForm},
		{4, 3, pack.Pack(good), api.ErrForm},
		{4, 4, pack.Pack(good), api.ErrForm},
		{3, 3, pack.Pack(good), api.ErrForm},
		{30, 1, pack.Pack(good), api.ErrForm},
	} {
		l := split(c.from, c.to, c.packed)
		if e := List(l); e != api.OK {
			t.Fatalf("%d: the list %v has the error %d", i, l, e)
		}
		checkJoin(t, l, api.Patch{}, c.want)
		if p, e := slowJoin(l); e != c.want || !isNone(p) {
			t.Errorf("%d: slowJoin(%v) = %v, %d, want none, %d", i, l, p, e, c.want)
		}
		if len(l) > 1 { // errors that come before these
			checkJoin(t, l[1:], api.Patch{}, api.ErrLate)
			checkJoin(t, l[:len(l)-1], api.Patch{}, api.ErrLate)
			checkJoin(t, chunks(l[1], l[0]), api.Patch{}, api.ErrForm)
		}
		checkJoin(t, withAll(l, func(c *api.Chunk) { c.From = 0 }), api.Patch{}, api.ErrRange)
		checkJoin(t, withAll(l[:1], func(c *api.Chunk) { c.Of = 2; c.N = 1; c.To = 31 }), api.Patch{}, api.ErrRange)
	}
	checkJoin(t, split(3, 4, pack.Pack(good)), inserting(30), api.OK)
}

func TestJoinListBeforeLate(t *testing.T) { // P8.3, P3: a list that is refused, with chunks missing
	checkJoin(t, chunks(sized(0, 3, 15)), api.Patch{}, api.ErrForm)
	checkJoin(t, chunks(full(3, 3)), api.Patch{}, api.ErrRange)
	checkJoin(t, chunks(full(1, 3), full(0, 3)), api.Patch{}, api.ErrForm)
	checkJoin(t, chunks(full(0, 3), full(1, 4)), api.Patch{}, api.ErrForm)
	checkJoin(t, chunks(full(0, 3), full(1, 3)), api.Patch{}, api.ErrLate)
	checkJoin(t, make([]api.Chunk, 1), api.Patch{}, api.ErrRange)
}

func TestJoinMostBytes(t *testing.T) { // P8.3: just api.MaxPatch bytes and more
	long := slices.Concat([]byte{3, 4, 0, 1, 0, 1, 64, 196}, bytes.Repeat([]byte{0, 1}, 196)) // 400 bytes, all of them read
	for _, c := range []struct {
		packed []byte
		want   api.Errno
	}{
		{pack.Pack(long), api.ErrMany}, // of patch.Read: too many steps
		{pack.Pack(slices.Concat([]byte{0}, long[1:])), api.ErrRange},
		{pack.Pack(make([]byte, 400)), api.ErrTorn}, // of patch.Read: bytes remain
		{pack.Pack(make([]byte, 401)), api.ErrMany},
		{pack.Pack(make([]byte, 402)), api.ErrMany},
		{pack.Pack(make([]byte, 1000)), api.ErrMany},
		{pack.Pack(append(make([]byte, 400), 1)), api.ErrMany},
		{pack.Pack(slices.Concat([]byte{0}, long[1:], []byte{7})), api.ErrMany},
		{eachAlone(1, make([]byte, 399)), api.ErrTorn},
		{eachAlone(1, make([]byte, 400)), api.ErrTorn}, // 50 chunks
		{eachAlone(1, make([]byte, 401)), api.ErrMany},
		{eachAlone(1, make([]byte, 416)), api.ErrMany}, // api.MaxChunks
		{append(eachAlone(1, make([]byte, 400)), make([]byte, 32)...), api.ErrForm},
		{append(eachAlone(129, make([]byte, 400)), 127, 1), api.ErrTorn},
	} {
		l := split(3, 4, c.packed)
		checkList(t, l, api.OK)
		checkJoin(t, l, api.Patch{}, c.want)
		checkSlow(t, l, full(0, 1))
	}
	tooMany := split(3, 4, eachAlone(1, make([]byte, 417))) // one more than api.MaxChunks
	if len(tooMany) != 53 {
		t.Fatalf("%d chunks, want 53", len(tooMany))
	}
	checkJoin(t, tooMany, api.Patch{}, api.ErrRange)
}

func TestJoinChangedBytes(t *testing.T) { // P8.3; P1: no panic
	next := numbers(5)
	for range 4000 {
		l, _ := Cut(somePatch(next))
		for range 10 {
			c := cloned(l)
			for range 1 + next(3) {
				data := c[next(len(c))].Data
				data[next(len(data))] = []byte{0, 1, 128, 129, byte(next(256))}[next(5)]
			}
			checkSlow(t, c, c[next(len(c))])
		}
	}
}

// someChunk returns a chunk that is valid in most cases, and of few patches, so that two of them are often of one.
func someChunk(next func(int) int) api.Chunk {
	c := full(next(3), 3)
	if next(4) == 0 {
		c.Data = c.Data[:1+next(16)]
	}
	switch next(12) {
	case 0:
		c.From = []int{0, 1, 30, 31}[next(4)]
	case 1:
		c.To = []int{0, 1, 30, 31}[next(4)]
	case 2:
		c.Of = []int{0, 1, 2, 52, 53}[next(5)]
	case 3:
		c.N = next(5) - 1
	}
	return c
}

func TestSomeLists(t *testing.T) { // P8.1 to P8.3; P1: no panic
	next := numbers(6)
	counts := map[api.Errno]int{}
	for range 100000 {
		l := make([]api.Chunk, next(4))
		for i := range l {
			l[i] = someChunk(next)
		}
		if next(2) == 0 {
			slices.SortFunc(l, func(a, b api.Chunk) int { return a.N - b.N })
		}
		checkSlow(t, l, someChunk(next))
		counts[List(l)]++
	}
	for _, e := range []api.Errno{api.OK, api.ErrRange, api.ErrForm} {
		if counts[e] < 1000 {
			t.Errorf("only %d lists with the error %d", counts[e], e)
		}
	}
}

// roomy returns the list with something behind it, and behind each Data.
func roomy(l []api.Chunk) []api.Chunk {
	out := append(make([]api.Chunk, 0, 100), cloned(l)...)
	for i := range out {
		out[i].Data = append(append(make([]byte, 0, 100), out[i].Data...), "behind"...)[:len(out[i].Data)]
	}
	return append(out, full(1, 2), api.Chunk{})[:len(l)]
}

func TestOnlyArgumentsCount(t *testing.T) { // P1: not what was called before, not what lies behind the lists
	p := inserting(64)
	want, _ := Cut(p)
	want = cloned(want)
	Cut(longest())
	Add(chunks(full(0, 3)), full(1, 3))
	Join(chunks(full(0, 3)))
	if l, e := Cut(p); e != api.OK || !plain(l, want) {
		t.Errorf("Cut of the same patch: %v, %d", l, e)
	}
	for _, l := range [][]api.Chunk{want, cloned(want), roomy(want)} {
		checkJoin(t, l, p, api.OK)
		checkList(t, l, api.OK)
		if !Same(l, want) || !Same(want, l) {
			t.Errorf("Same of the same list: false")
		}
		for n, c := range l {
			rest := slices.Concat(want[:n], want[n+1:])
			checkAdd(t, rest, c, want, api.OK)
			checkAdd(t, roomy(rest), c, want, api.OK)
			checkAdd(t, l[:n], c, want[:n+1], api.OK)
			checkAdd(t, l[:n:n], c, want[:n+1], api.OK)
			checkAdd(t, l, c, want, api.OK)
		}
	}
}

func TestArgumentsAreOnlyRead(t *testing.T) { // P2: also what lies behind them
	next := numbers(7)
	for range 2000 {
		p := somePatch(next)
		wasBytes := put(p)
		l, _ := Cut(p)
		Cut(p)
		if !bytes.Equal(put(p), wasBytes) {
			t.Fatalf("Cut has changed the patch to %v", p)
		}
		given := roomy(l)
		c := given[next(len(given))]
		behind := given[:len(given)+2]
		was := cloned(behind)
		room := make([]string, len(given))
		for i := range given {
			room[i] = string(given[i].Data[:cap(given[i].Data)])
		}
		for n := range behind {
			Add(given[:n], c)
			Add(given[:n], behind[n])
			Add(behind[:n], c)
			Join(behind[:n])
			List(behind[:n])
		}
		Add(given, with(c, func(c *api.Chunk) { c.From = c.From%30 + 1 }))
		Join(given)
		List(given)
		Same(given, l)
		Check(c)
		if !plain(behind, was) {
			t.Fatalf("arguments have changed: %v is %v", was, behind)
		}
		for i := range given {
			if string(given[i].Data[:cap(given[i].Data)]) != room[i] {
				t.Fatalf("what lies behind Data has changed: %v", given[i])
			}
		}
	}
}

// spoil writes into every byte of a list and of its spare capacity; doing so twice restores nothing.
func spoil(b []byte) {
	b = b[:cap(b)]
	for i := range b {
		b[i] += 37
	}
}

// spoilAll writes into every chunk of a list, into its Data, and into the spare capacity of both.
func spoilAll(l []api.Chunk) {
	l = l[:cap(l)]
	for i := range l {
		spoil(l[i].Data)
		l[i] = api.Chunk{From: -7, To: -7, N: -7, Of: -7}
	}
}

// checkOwnLists says whether the Data of l, which equals want, share memory with each other.
func checkOwnLists(t *testing.T, l, want []api.Chunk) {
	t.Helper()
	for i := range l {
		spoil(l[i].Data)
		l[i].Data = bytes.Clone(want[i].Data)
		if !plain(l, want) {
			t.Errorf("Data of chunk %d of %v shares memory with other Data", i, want)
		}
	}
}

func TestCutIsNew(t *testing.T) { // P2
	for _, p := range []api.Patch{inserting(5), inserting(64), longest()} {
		was := put(p)
		l, _ := Cut(p)
		want := cloned(l)
		again, _ := Cut(p)
		checkOwnLists(t, l, want)
		spoilAll(l)
		if !plain(again, want) || !bytes.Equal(put(p), was) {
			t.Errorf("the chunks of %v share memory with others, or with the patch", p)
		}
		for _, o := range p.Ops {
			spoil(o.Data)
		}
		if !plain(again, want) {
			t.Errorf("the patch was kept: %v, want %v", again, want)
		}
	}
}

// oneArray returns a list whose Data are all parts of one array, each with the next as its spare capacity.
func oneArray(l []api.Chunk) []api.Chunk {
	l = cloned(l)
	b := make([]byte, 0, 1000)
	for i := range l {
		start := len(b)
		b = append(b, l[i].Data...)
		l[i].Data = b[start:]
	}
	return l
}

func TestAddIsNew(t *testing.T) { // P2: whether the chunk is inserted, was there, or is of another patch
	l := chunks(full(0, 5), full(2, 5), sized(4, 5, 7))
	for _, c := range chunks(full(1, 5), full(3, 5), full(0, 5), full(2, 5), sized(4, 5, 9), full(0, 2), sized(1, 2, 3)) {
		for n := range 4 {
			given := oneArray(append(cloned(l), c))
			last := given[3]
			want, _ := slowAdd(l[:n], c)
			got, _ := Add(given[:n], last)
			again, _ := Add(given[:n], last)
			third, _ := Add(given[:n], last)
			if !plain(got, want) {
				t.Fatalf("Add(%v, %v) = %v, want %v", l[:n], c, got, want)
			}
			checkOwnLists(t, got, want)
			spoilAll(third)
			if !plain(given, append(cloned(l), c)) {
				t.Errorf("the result of Add shares memory with an argument: %v", given)
			}
			spoilAll(given)
			if !plain(again, want) {
				t.Errorf("an argument of Add was kept: %v, want %v", again, want)
			}
		}
	}
}

func TestAddOneArgumentTwice(t *testing.T) { // P2: the chunk is one of the list, or has its Data
	l := chunks(full(0, 3), full(1, 3))
	got, _ := Add(l, l[1])
	checkOwnLists(t, got, cloned(l))
	shared := l[0]
	shared.N = 2
	want := chunks(full(0, 3), full(1, 3), with(full(0, 3), func(c *api.Chunk) { c.N = 2 }))
	got, e := Add(l, shared)
	if e != api.OK || !plain(got, want) {
		t.Fatalf("Add(%v, %v) = %v, %d, want %v, 0", l, shared, got, e, want)
	}
	checkOwnLists(t, got, want)
	if !plain(l, want[:2]) {
		t.Errorf("the result of Add shares memory with an argument: %v", l)
	}
}

func TestJoinIsNew(t *testing.T) { // P2
	p := longest()
	want := put(p)
	l, _ := Cut(p)
	was := cloned(l)
	first, _ := Join(l)
	again, _ := Join(l)
	for i := range first.Ops {
		spoil(first.Ops[i].Data)
		first.Ops[i].Data = bytes.Clone(p.Ops[i].Data)
		if !patch.Same(first, p) {
			t.Errorf("Data of step %d shares memory with other Data", i)
		}
	}
	spoiled, _ := Join(l)
	for _, o := range spoiled.Ops {
		spoil(o.Data)
	}
	if !plain(l, was) {
		t.Errorf("the patch shares memory with its chunks: %v", l)
	}
	spoilAll(l)
	if !bytes.Equal(put(again), want) {
		t.Errorf("the chunks were kept: %v", again)
	}
}
