package patch

import (
	"bytes"
	"math"
	"slices"
	"strings"
	"testing"

	"cobbler/api"
	"cobbler/delta"
)

// put returns a step that inserts text.
func put(text string) api.Op { return api.Op{Data: []byte(text)} }

// take returns a step that copies n bytes from at on.
func take(at, n int) api.Op { return api.Op{At: at, Len: n} }

func steps(l ...api.Op) []api.Op { return l }

// times returns a list of n such steps.
func times(n int, o api.Op) []api.Op { return slices.Repeat([]api.Op{o}, n) }

// letters returns n times the same letter.
func letters(n int) string { return strings.Repeat("a", n) }

// rising returns n bytes that all differ; the first one is start.
func rising(n int, start byte) []byte {
	b := make([]byte, n)
	for i := range b {
		b[i] = start + byte(i)
	}
	return b
}

// numbers returns a source of numbers below a limit; they look random and are the same each time.
func numbers(seed uint64) func(int) int {
	return func(limit int) int {
		seed = seed*6364136223846793005 + 1442695040888963407
		return int(seed >> 33 % uint64(limit))
	}
}

// size returns how many bytes a valid delta produces.
func size(l []api.Op) int {
	n := 0
	for _, o := range l {
		n += o.Len + len(o.Data)
	}
	return n
}

// of returns a patch of these steps; its other fields are valid, and all differ.
func of(l ...api.Op) api.Patch {
	return api.Patch{From: 3, To: 4, Old: 0x0102, New: 0xf0f1, Size: size(l), Ops: l}
}

// with returns p after a change.
func with(p api.Patch, change func(*api.Patch)) api.Patch {
	p = cloned(p)
	change(&p)
	return p
}

// cloned returns the patch with lists of its own.
func cloned(p api.Patch) api.Patch {
	p.Ops = slices.Clone(p.Ops)
	for i := range p.Ops {
		p.Ops[i].Data = bytes.Clone(p.Ops[i].Data)
	}
	return p
}

// plain says whether two patches agree, field by field.
func plain(a, b api.Patch) bool {
	if a.From != b.From || a.To != b.To || a.Old != b.Old || a.New != b.New || a.Size != b.Size || len(a.Ops) != len(b.Ops) {
		return false
	}
	for i, x := range a.Ops {
		y := b.Ops[i]
		if x.At != y.At || x.Len != y.Len || string(x.Data) != string(y.Data) {
			return false
		}
	}
	return true
}

// slowSum adds what each byte contributes.
func slowSum(b []byte) int {
	s, power := 0, 1
	for i := len(b) - 1; i >= 0; i-- {
		s += int(b[i]) * power
		power = power * 31 % 65521
	}
	return (s + power) % 65521
}

// slowCheck goes through the fields one by one.
func slowCheck(p api.Patch) api.Errno {
	for _, version := range []int{p.From, p.To} {
		if version < 1 || version > 30 {
			return api.ErrRange
		}
	}
	for _, s := range []int{p.Old, p.New} {
		if s < 0 || s > 65535 {
			return api.ErrRange
		}
	}
	return delta.Check(p.Ops, 64, p.Size)
}

// slowDo goes through the errors of P6.2 one by one, and writes the new image byte by byte.
func slowDo(p api.Patch, old []byte) ([]byte, api.Errno) {
	if e := slowCheck(p); e != api.OK {
		return nil, e
	}
	if len(old) > 64 {
		return nil, api.ErrMany
	}
	if slowSum(old) != p.Old {
		return nil, api.ErrSum
	}
	var b []byte
	for _, o := range p.Ops {
		b = append(b, o.Data...)
		for i := range o.Len {
			if o.At+i >= len(old) {
				return nil, api.ErrRange
			}
			b = append(b, old[o.At+i])
		}
	}
	if slowSum(b) != p.New {
		return nil, api.ErrSum
	}
	return b, api.OK
}

// slowRead takes one byte after the other.
func slowRead(b []byte) (api.Patch, api.Errno) {
	if len(b) > 400 {
		return api.Patch{}, api.ErrMany
	}
	missing := false
	next := func() int {
		if len(b) == 0 {
			missing = true
			return 0
		}
		x := b[0]
		b = b[1:]
		return int(x)
	}
	p := api.Patch{From: next(), To: next()}
	p.Old = 256 * next()
	p.Old += next()
	p.New = 256 * next()
	p.New += next()
	p.Size = next()
	for n := next(); n > 0 && !missing; n-- {
		at, length := next(), next()
		if at == 255 {
			var data []byte
			for range length {
				data = append(data, byte(next()))
			}
			p.Ops = append(p.Ops, api.Op{Data: data})
			continue
		}
		if length == 0 && !missing {
			return api.Patch{}, api.ErrForm
		}
		p.Ops = append(p.Ops, take(at, length))
	}
	if missing || len(b) > 0 {
		return api.Patch{}, api.ErrTorn
	}
	if e := slowCheck(p); e != api.OK {
		return api.Patch{}, e
	}
	return p, api.OK
}

// checkRead compares Read with slowRead; what can be read is put again.
func checkRead(t *testing.T, b []byte) {
	t.Helper()
	p, e := Read(b)
	want, f := slowRead(b)
	if e != f || !plain(p, want) {
		t.Fatalf("Read(%v) = %v, %d, want %v, %d", b, p, e, want, f)
	}
	if e != api.OK {
		return
	}
	if again, e := Put(p); e != api.OK || !bytes.Equal(again, b) {
		t.Fatalf("Put of Read(%v) = %v, %d", b, again, e)
	}
}

// checkDo compares Do with slowDo.
func checkDo(t *testing.T, p api.Patch, old []byte) {
	t.Helper()
	b, e := Do(p, old)
	want, f := slowDo(p, old)
	if e != f || !bytes.Equal(b, want) {
		t.Fatalf("Do(%v, %v) = %v, %d, want %v, %d", p, old, b, e, want, f)
	}
}

// checkRefused says whether Check, Do and Put all return the error of Check, and nothing with it.
func checkRefused(t *testing.T, p api.Patch, want api.Errno) {
	t.Helper()
	if e := Check(p); e != want {
		t.Errorf("Check(%v) = %d, want %d", p, e, want)
	}
	for _, n := range []int{0, 8, 64, 65} {
		if b, e := Do(p, rising(n, 0)); e != want || len(b) != 0 {
			t.Errorf("Do(%v) with %d bytes = %v, %d, want none, %d", p, n, b, e, want)
		}
	}
	if b, e := Put(p); e != want || len(b) != 0 {
		t.Errorf("Put(%v) = %v, %d, want none, %d", p, b, e, want)
	}
}

// checkPut says whether a valid patch has these bytes, and is read from them.
func checkPut(t *testing.T, p api.Patch, want []byte) {
	t.Helper()
	b, e := Put(p)
	if e != api.OK || !bytes.Equal(b, want) {
		t.Errorf("Put(%v) = %v, %d, want %v, 0", p, b, e, want)
	}
	if q, e := Read(want); e != api.OK || !plain(p, q) {
		t.Errorf("Read(%v) = %v, %d, want %v, 0", want, q, e, p)
	}
	if e := Check(p); e != api.OK {
		t.Errorf("Check(%v) = %d, want 0", p, e)
	}
}

// someSteps returns a valid delta of at most most steps for an image of old bytes.
func someSteps(next func(int) int, old, most int) []api.Op {
	var l []api.Op
	room := next(65)
	for range next(most + 1) {
		if room == 0 {
			break
		}
		n := 1 + next(min(room, 1+next(16)))
		if old == 0 || next(3) == 0 {
			l = append(l, api.Op{Data: rising(n, byte(next(256)))})
		} else {
			n = min(n, old)
			l = append(l, take(next(old-n+1), n))
		}
		room -= n
	}
	return l
}

// somePatch returns a valid patch.
func somePatch(next func(int) int) api.Patch {
	l := someSteps(next, 64, 40)
	return api.Patch{From: 1 + next(30), To: 1 + next(30), Old: next(65536), New: next(65536), Size: size(l), Ops: l}
}

// extremes are values that no field may have.
func extremes() []int {
	return []int{-1, -2, 65536, 65537, math.MaxInt32, math.MinInt32, math.MaxInt, math.MaxInt - 1, math.MinInt, math.MinInt + 1}
}

// wrongFields are patches with one field that makes for ErrRange, whatever the steps are.
func wrongFields(p api.Patch) []api.Patch {
	var l []api.Patch
	for _, n := range append(extremes(), 0, 31, 32, 255, 256, 257) {
		l = append(l, with(p, func(p *api.Patch) { p.From = n }), with(p, func(p *api.Patch) { p.To = n }))
	}
	for _, n := range extremes() {
		l = append(l, with(p, func(p *api.Patch) { p.Old = n }), with(p, func(p *api.Patch) { p.New = n }))
	}
	return l
}

type refusal struct {
	p    api.Patch
	want api.Errno
}

// wrongSteps are patches whose steps, or whose Size, are refused.
func wrongSteps() []refusal {
	sized := func(n int, l ...api.Op) api.Patch { return with(of(l...), func(p *api.Patch) { p.Size = n }) }
	l := []refusal{
		{of(times(41, put("x"))...), api.ErrMany},
		{of(times(41, take(0, 1))...), api.ErrMany},
		{of(times(1000, take(0, 1))...), api.ErrMany},
		{sized(65), api.ErrMany},
		{sized(65, put(letters(64)), put("x")), api.ErrMany},
		{sized(256), api.ErrMany},
		{sized(264, take(0, 8)), api.ErrMany},
		{sized(8, take(0, 9)), api.ErrMany},
		{sized(0, put("x")), api.ErrMany},
		{sized(2, put("x"), put("yz")), api.ErrMany},
		{sized(1), api.ErrForm},
		{sized(64), api.ErrForm},
		{sized(8, take(0, 7)), api.ErrForm},
		{sized(64, put(letters(63))), api.ErrForm},
		{sized(0, api.Op{}), api.ErrForm},
		{sized(1, put("x"), api.Op{}), api.ErrForm},
		{sized(64, put(letters(65))), api.ErrForm},
		{sized(1, api.Op{At: 1, Data: []byte("x")}), api.ErrForm},
		{sized(1, api.Op{At: -1, Data: []byte("x")}), api.ErrForm},
		{sized(1, api.Op{At: 255, Data: []byte("x")}), api.ErrForm},
		{sized(1, api.Op{Len: 1, Data: []byte("x")}), api.ErrForm},
		{sized(2, api.Op{Len: 1, Data: []byte("x")}), api.ErrForm},
		{sized(1, take(64, 1)), api.ErrRange},
		{sized(64, take(1, 64)), api.ErrRange},
		{sized(64, take(0, 65)), api.ErrRange},
		{sized(1, take(255, 1)), api.ErrRange},
		{sized(1, take(256, 1)), api.ErrRange},
		{sized(1, take(0, 257)), api.ErrRange},
		{sized(1, take(-1, 1)), api.ErrRange},
		{sized(1, take(0, -1)), api.ErrRange},
		{sized(0, take(0, -1)), api.ErrRange},
	}
	for _, n := range extremes() {
		l = append(l,
			refusal{sized(n), api.ErrMany},
			refusal{sized(n, put("x")), api.ErrMany},
			refusal{sized(1, take(n, 1)), api.ErrRange},
			refusal{sized(1, take(0, n)), api.ErrRange},
			refusal{sized(1, take(n, n)), api.ErrRange},
			refusal{sized(1, put("x"), take(n, 1)), api.ErrRange},
			refusal{sized(1, api.Op{At: n, Data: []byte("x")}), api.ErrForm},
			refusal{sized(1, api.Op{Len: n, Data: []byte("x")}), api.ErrForm},
			refusal{sized(1, api.Op{At: n}), api.ErrForm},
		)
	}
	return l
}

func TestExample(t *testing.T) { // P6.1 to P6.4: the document's images
	old, b := []byte("abcdefgh"), []byte("xefghabcd")
	p, e := Make(1, 2, old, b)
	want := api.Patch{From: 1, To: 2, Old: 33012, New: 46707, Size: 9, Ops: steps(put("x"), take(4, 4), take(0, 4))}
	if e != api.OK || !plain(p, want) {
		t.Fatalf("Make = %v, %d, want %v, 0", p, e, want)
	}
	if n, e := Do(p, old); e != api.OK || !bytes.Equal(n, b) {
		t.Errorf("Do = %q, %d, want %q, 0", n, e, b)
	}
	checkPut(t, p, []byte{1, 2, 128, 244, 182, 115, 9, 3, 255, 1, 'x', 4, 4, 0, 4})
}

func TestNoSteps(t *testing.T) { // P6.3: 8 bytes, the chapter's example
	checkPut(t, api.Patch{From: 1, To: 2, Old: 3, New: 1}, []byte{1, 2, 0, 3, 0, 1, 0, 0})
	checkPut(t, api.Patch{From: 1, To: 2, Old: 3, New: 1, Ops: steps()}, []byte{1, 2, 0, 3, 0, 1, 0, 0})
	for _, old := range [][]byte{nil, {}, []byte("abcdefgh"), rising(64, 0)} {
		p, e := Make(30, 1, old, nil)
		want := api.Patch{From: 30, To: 1, Old: slowSum(old), New: 1}
		if e != api.OK || !plain(p, want) {
			t.Errorf("Make for no bytes out of %v = %v, %d, want %v, 0", old, p, e, want)
		}
		if b, e := Do(p, old); e != api.OK || len(b) != 0 {
			t.Errorf("Do(%v, %v) = %v, %d, want none, 0", p, old, b, e)
		}
		if b, e := Put(p); e != api.OK || len(b) != 8 {
			t.Errorf("Put(%v) = %v, %d, want 8 bytes, 0", p, b, e)
		}
	}
}

func TestVersions(t *testing.T) { // P6.1: from 1 to api.MaxVersion
	for n := -300; n <= 600; n++ {
		want := api.ErrRange
		if n >= 1 && n <= 30 {
			want = api.OK
		}
		for _, other := range []int{1, 15, 30} {
			for _, p := range []api.Patch{
				with(of(take(0, 8)), func(p *api.Patch) { p.From, p.To = n, other }),
				with(of(take(0, 8)), func(p *api.Patch) { p.From, p.To = other, n }),
			} {
				if e := Check(p); e != want {
					t.Fatalf("Check(%v) = %d, want %d", p, e, want)
				}
			}
		}
	}
	for _, c := range [][2]int{{1, 1}, {1, 30}, {30, 1}, {30, 30}, {7, 6}} { // they may be equal, and fall
		checkPut(t, api.Patch{From: c[0], To: c[1]}, []byte{byte(c[0]), byte(c[1]), 0, 0, 0, 0, 0, 0})
	}
}

func TestSums(t *testing.T) { // P6.1: from 0 to 65535; P6.3: the higher byte first
	for _, c := range []struct {
		n         int
		high, low byte
	}{
		{0, 0, 0}, {1, 0, 1}, {255, 0, 255}, {256, 1, 0}, {0x0102, 1, 2}, {0x7fff, 127, 255}, {0x8000, 128, 0},
		{65520, 255, 240}, {65521, 255, 241}, {65534, 255, 254}, {65535, 255, 255},
	} {
		checkPut(t, api.Patch{From: 5, To: 6, Old: c.n, New: 0x0304}, []byte{5, 6, c.high, c.low, 3, 4, 0, 0})
		checkPut(t, api.Patch{From: 5, To: 6, Old: 0x0304, New: c.n}, []byte{5, 6, 3, 4, c.high, c.low, 0, 0})
		checkPut(t, api.Patch{From: 5, To: 6, Old: c.n, New: c.n}, []byte{5, 6, c.high, c.low, c.high, c.low, 0, 0})
	}
	for _, n := range []int{-1, 65536} {
		checkRefused(t, api.Patch{From: 5, To: 6, Old: n}, api.ErrRange)
		checkRefused(t, api.Patch{From: 5, To: 6, New: n}, api.ErrRange)
	}
}

func TestSizes(t *testing.T) { // P6.1, P6.3: Size 0 to api.MaxImage
	for n := 1; n <= 64; n++ {
		head := []byte{3, 4, 1, 2, 0xf0, 0xf1, byte(n), 1}
		checkPut(t, of(take(0, n)), append(head[:8:8], 0, byte(n)))
		checkPut(t, of(take(64-n, n)), append(head[:8:8], byte(64-n), byte(n)))
		checkPut(t, of(put(letters(n))), append(append(head[:8:8], 255, byte(n)), letters(n)...))
	}
}

func TestSteps(t *testing.T) { // P6.1, P6.3
	head := func(size, n byte) []byte { return []byte{3, 4, 1, 2, 0xf0, 0xf1, size, n} }
	for _, c := range []struct {
		l    []api.Op
		want []byte
	}{
		{steps(take(0, 1)), append(head(1, 1), 0, 1)}, // from place 0
		{steps(take(63, 1)), append(head(1, 1), 63, 1)},
		{steps(take(5, 9), take(0, 3), take(5, 9)), append(head(21, 3), 5, 9, 0, 3, 5, 9)},
		{steps(take(1, 2), take(3, 4)), append(head(6, 2), 1, 2, 3, 4)}, // steps that could be combined
		{steps(put("a"), put("bc")), append(head(3, 2), 255, 1, 'a', 255, 2, 'b', 'c')},
		{steps(put("abc"), take(0, 2), put("d")), append(head(6, 3), 255, 3, 'a', 'b', 'c', 0, 2, 255, 1, 'd')},
		{steps(put("\x00")), append(head(1, 1), 255, 1, 0)}, // bytes that could be taken for others
		{steps(put("\xff")), append(head(1, 1), 255, 1, 255)},
		{steps(put("\xff\x00\xff\x01"), take(1, 1)), append(head(5, 2), 255, 4, 255, 0, 255, 1, 1, 1)},
		{steps(api.Op{At: 2, Len: 3, Data: []byte{}}), append(head(3, 1), 2, 3)},
	} {
		checkPut(t, of(c.l...), c.want)
	}
}

func TestMostSteps(t *testing.T) { // P6.1, P6.3: just api.MaxOps steps
	head := []byte{3, 4, 1, 2, 0xf0, 0xf1, 40, 40}
	checkPut(t, of(times(40, take(7, 1))...), append(head[:8:8], bytes.Repeat([]byte{7, 1}, 40)...))
	checkPut(t, of(times(40, put("q"))...), append(head[:8:8], bytes.Repeat([]byte{255, 1, 'q'}, 40)...))
	for _, n := range []int{41, 42, 255, 256, 257, 296} {
		for _, o := range []api.Op{take(7, 1), put("q"), {}} {
			checkRefused(t, of(times(n, o)...), api.ErrMany)
			checkRefused(t, with(of(times(n, o)...), func(p *api.Patch) { p.Size = 40 }), api.ErrMany)
		}
	}
}

func TestLongestPatch(t *testing.T) { // P6.3: a valid patch never has more than api.MaxPatch bytes
	p := of(append(times(39, put("q")), put(letters(25)))...)
	b, e := Put(p)
	if e != api.OK || len(b) != 8+2*40+64 || len(b) > api.MaxPatch {
		t.Errorf("Put(%v) = %v, %d, want 152 bytes, 0", p, b, e)
	}
	checkRead(t, b)
}

func TestRefusesFields(t *testing.T) { // P6.1: From, To, Old, New
	for _, p := range []api.Patch{of(), of(take(0, 8)), of(put("x"), take(4, 4))} {
		for _, w := range wrongFields(p) {
			checkRefused(t, w, api.ErrRange)
		}
	}
}

func TestRefusesSteps(t *testing.T) { // P6.1: the errors of delta.Check for api.MaxImage bytes and Size
	for _, w := range wrongSteps() {
		checkRefused(t, w.p, w.want)
	}
}

func TestRefusesFieldsFirst(t *testing.T) { // P6.1, P3: errors of both at once
	for _, w := range wrongSteps() {
		for _, p := range wrongFields(w.p) {
			checkRefused(t, p, api.ErrRange)
		}
	}
}

func TestEveryField(t *testing.T) { // P6.1; P1: no panic
	values := []int{0, 1, 30, 31, 64, 65, 65535, 65536, -1, math.MaxInt, math.MinInt}
	for _, from := range values {
		for _, to := range values {
			for _, old := range values {
				for _, made := range values {
					for _, n := range values {
						p := api.Patch{From: from, To: to, Old: old, New: made, Size: n, Ops: steps(put("x"))}
						want := slowCheck(p)
						if e := Check(p); e != want {
							t.Fatalf("Check(%v) = %d, want %d", p, e, want)
						}
						if !Same(p, p) {
							t.Fatalf("Same(%v) with itself: false", p)
						}
					}
				}
			}
		}
	}
}

// variants are patches that all differ.
func variants() []api.Patch {
	p := of(put("xy"), take(4, 4), take(0, 4))
	l := []api.Patch{p, {}, of(), of(put("xy")), of(put("x")), of(put("x"), put("y")), of(put("")), of(put(""), put(""))}
	for _, n := range append(extremes(), 0, 1, 2) {
		l = append(l,
			with(p, func(p *api.Patch) { p.From = n }),
			with(p, func(p *api.Patch) { p.To = n }),
			with(p, func(p *api.Patch) { p.Old = n }),
			with(p, func(p *api.Patch) { p.New = n }),
			with(p, func(p *api.Patch) { p.Size = n }),
			with(p, func(p *api.Patch) { p.Ops[0].At = n + 7 }),
			with(p, func(p *api.Patch) { p.Ops[0].Len = n + 7 }),
			with(p, func(p *api.Patch) { p.Ops[2].At = n + 7 }),
			with(p, func(p *api.Patch) { p.Ops[2].Len = n + 7 }),
		)
	}
	return append(l,
		with(p, func(p *api.Patch) { p.From, p.To = p.To, p.From }),
		with(p, func(p *api.Patch) { p.Old, p.New = p.New, p.Old }),
		with(p, func(p *api.Patch) { p.Ops[0].Data[1] = 'z' }),
		with(p, func(p *api.Patch) { p.Ops[0].Data = []byte("xyz") }),
		with(p, func(p *api.Patch) { p.Ops[1].Data = []byte("x") }),
		with(p, func(p *api.Patch) { p.Ops = p.Ops[:2] }),
		with(p, func(p *api.Patch) { p.Ops[1], p.Ops[2] = p.Ops[2], p.Ops[1] }),
		with(p, func(p *api.Patch) { p.Ops = append(p.Ops, api.Op{}) }),
		with(p, func(p *api.Patch) { p.Ops = times(1000, put("x")) }),
	)
}

func TestSame(t *testing.T) { // P6.1: valid or not
	l := variants()
	for i, a := range l {
		for j, b := range l {
			if Same(a, cloned(b)) != (i == j) {
				t.Errorf("Same(%v, %v) = %v", a, b, i != j)
			}
		}
	}
}

func TestSameWithEmptyLists(t *testing.T) { // P2: nil or empty
	none, empty := of(take(0, 8)), of(api.Op{Len: 8, Data: []byte{}})
	if !Same(none, empty) || !Same(empty, none) {
		t.Errorf("Data nil and empty: not the same")
	}
	if !Same(api.Patch{}, api.Patch{Ops: steps()}) || !Same(api.Patch{Ops: steps()}, api.Patch{}) {
		t.Errorf("Ops nil and empty: not the same")
	}
}

func TestMake(t *testing.T) { // P6.1, P6.4: versions, sums, Size, delta.Diff; applied, put and read again
	next := numbers(4)
	for range 4000 {
		old := rising(next(65), byte(next(256)))
		at := next(len(old) + 1)
		b := slices.Concat(old[at:], rising(next(9), byte(next(256))), old[:at])
		b = b[:min(len(b), 64)]
		checkMake(t, 1+next(30), 1+next(30), old, b)
		checkMake(t, 1+next(30), 1+next(30), b, old)
		checkMake(t, 1+next(30), 1+next(30), old, old)
	}
	for n := range 65 {
		checkMake(t, 1, 30, rising(n, 0), rising(64, 100))
		checkMake(t, 30, 1, rising(64, 100), rising(n, 0))
	}
}

// checkMake follows a patch from Make to Do, once directly and once by its bytes.
func checkMake(t *testing.T, from, to int, old, b []byte) {
	t.Helper()
	l, _ := delta.Diff(old, b)
	want := api.Patch{From: from, To: to, Old: slowSum(old), New: slowSum(b), Size: len(b), Ops: l}
	p, e := Make(from, to, old, b)
	if e != api.OK || !plain(p, want) {
		t.Fatalf("Make(%d, %d, %v, %v) = %v, %d, want %v, 0", from, to, old, b, p, e, want)
	}
	if n, e := Do(p, old); e != api.OK || !bytes.Equal(n, b) {
		t.Fatalf("Do(%v, %v) = %v, %d, want %v, 0", p, old, n, e, b)
	}
	x, e := Put(p)
	q, f := Read(x)
	if e != api.OK || f != api.OK || !plain(p, q) || !Same(p, q) {
		t.Fatalf("Put(%v) = %v, %d; Read of it: %v, %d", p, x, e, q, f)
	}
	if n, e := Do(q, old); e != api.OK || !bytes.Equal(n, b) {
		t.Fatalf("Do(%v, %v) = %v, %d, want %v, 0", q, old, n, e, b)
	}
}

func TestMakeRefuses(t *testing.T) { // P6.1, P3: the images before the versions
	for _, c := range []struct {
		from, to, old, b int
		want             api.Errno
	}{
		{1, 2, 65, 0, api.ErrMany},
		{1, 2, 0, 65, api.ErrMany},
		{1, 2, 65, 65, api.ErrMany},
		{1, 2, 64, 1000, api.ErrMany},
		{1, 2, 1000, 64, api.ErrMany},
		{0, 2, 65, 8, api.ErrMany},
		{1, 31, 8, 65, api.ErrMany},
		{-1, 31, 65, 65, api.ErrMany},
		{math.MinInt, math.MaxInt, 0, 65, api.ErrMany},
		{0, 2, 8, 8, api.ErrRange},
		{1, 0, 8, 8, api.ErrRange},
		{31, 2, 64, 64, api.ErrRange},
		{1, 31, 64, 64, api.ErrRange},
		{0, 0, 0, 0, api.ErrRange},
		{-1, 1, 0, 0, api.ErrRange},
		{257, 1, 0, 8, api.ErrRange},
		{math.MaxInt, 1, 8, 8, api.ErrRange},
		{1, math.MaxInt, 8, 8, api.ErrRange},
		{math.MinInt, 1, 8, 8, api.ErrRange},
		{1, math.MinInt, 8, 8, api.ErrRange},
	} {
		p, e := Make(c.from, c.to, rising(c.old, 0), rising(c.b, 5))
		if e != c.want || !plain(p, api.Patch{}) {
			t.Errorf("Make(%d, %d) of %d and %d bytes = %v, %d, want none, %d", c.from, c.to, c.old, c.b, p, e, c.want)
		}
	}
}

func TestDo(t *testing.T) { // P6.2
	next := numbers(6)
	for range 5000 {
		old := rising(next(65), byte(next(256)))
		p := of(someSteps(next, len(old), 40)...)
		b, _ := delta.Apply(old, p.Ops, p.Size)
		p.Old, p.New = slowSum(old), slowSum(b)
		if n, e := Do(p, old); e != api.OK || !bytes.Equal(n, b) {
			t.Fatalf("Do(%v, %v) = %v, %d, want %v, 0", p, old, n, e, b)
		}
		p.Old += next(2) * (next(3) - 1)
		p.New += next(2) * (next(3) - 1)
		checkDo(t, p, old)
		checkDo(t, p, old[:next(len(old)+1)])
		checkDo(t, p, append(old, 7))
	}
}

func TestDoEdges(t *testing.T) { // P6.2: images of 0 and of api.MaxImage bytes
	full, text := rising(64, 9), letters(64)
	for _, c := range []struct {
		old  []byte
		l    []api.Op
		want string
	}{
		{nil, nil, ""},
		{[]byte{}, steps(put("x")), "x"},
		{nil, steps(put(text)), text},
		{full, nil, ""},
		{full, steps(take(0, 64)), string(full)},
		{full, steps(take(63, 1)), string(full[63:])},
		{full, steps(take(0, 1), take(0, 1)), string([]byte{9, 9})},
		{full, steps(put(text)), text},
		{full[:1], times(40, take(0, 1)), strings.Repeat("\x09", 40)},
		{full, steps(take(32, 32), take(0, 32)), string(full[32:]) + string(full[:32])},
	} {
		p := with(of(c.l...), func(p *api.Patch) { p.Old, p.New = slowSum(c.old), slowSum([]byte(c.want)) })
		if b, e := Do(p, c.old); e != api.OK || string(b) != c.want {
			t.Errorf("Do(%v, %v) = %v, %d, want %v, 0", p, c.old, b, e, []byte(c.want))
		}
	}
}

func TestDoRefuses(t *testing.T) { // P6.2, P3: each error, alone and with those behind it
	old := []byte("abcdefgh")
	good := with(of(put("x"), take(4, 4)), func(p *api.Patch) { p.Old, p.New = slowSum(old), slowSum([]byte("xefgh")) })
	far := with(good, func(p *api.Patch) { p.Ops[1] = take(5, 4) }) // valid, but for a longer image
	badOld := func(p *api.Patch) { p.Old++ }
	badNew := func(p *api.Patch) { p.New++ }
	badVersion := func(p *api.Patch) { p.To = 31 }
	badStep := func(p *api.Patch) { p.Ops[0].Data = nil }
	long := rising(65, 0)
	sumOfLong := func(p *api.Patch) { p.Old = slowSum(long) }
	for i, c := range []struct {
		p    api.Patch
		old  []byte
		want api.Errno
	}{
		{with(good, badVersion), old, api.ErrRange},
		{with(good, badStep), old, api.ErrForm},
		{with(with(good, badStep), badVersion), old, api.ErrRange},
		{with(good, badVersion), long, api.ErrRange},
		{with(good, badStep), long, api.ErrForm},
		{with(with(with(far, badStep), badOld), badNew), long, api.ErrForm},
		{with(with(good, badStep), badOld), old, api.ErrForm},
		{with(good, sumOfLong), long, api.ErrMany},
		{with(good, badOld), long, api.ErrMany},
		{with(with(good, sumOfLong), badNew), long, api.ErrMany},
		{good, make([]byte, 1000), api.ErrMany},
		{with(good, badOld), old, api.ErrSum},
		{good, []byte("abcdefgi"), api.ErrSum},
		{good, old[:7], api.ErrSum}, // the missing byte lies in the spare capacity
		{good, nil, api.ErrSum},
		{good, append(old[:8:8], 0), api.ErrSum},
		{with(far, badOld), old, api.ErrSum},
		{with(with(far, badOld), badNew), old, api.ErrSum},
		{far, old, api.ErrRange},
		{with(far, badNew), old, api.ErrRange},
		{with(good, badNew), old, api.ErrSum},
		{with(good, func(p *api.Patch) { p.Ops[0].Data[0]++ }), old, api.ErrSum},
		{with(good, func(p *api.Patch) { p.Ops[1].At-- }), old, api.ErrSum},
	} {
		if b, e := Do(c.p, c.old); e != c.want || len(b) != 0 {
			t.Errorf("%d: Do(%v, %v) = %v, %d, want none, %d", i, c.p, c.old, b, e, c.want)
		}
		checkDo(t, c.p, c.old)
	}
	if b, e := Do(good, old); e != api.OK || string(b) != "xefgh" {
		t.Errorf("Do(%v, %q) = %q, %d, want xefgh, 0", good, old, b, e)
	}
}

func TestDoSumsAtTheEnds(t *testing.T) { // P6.2: a checksum is below 65521; a patch may ask for more
	zero, top := []byte{1, 30, 21, 22}, []byte{1, 30, 21, 21}
	if slowSum(zero) != 0 || slowSum(top) != 65520 {
		t.Fatalf("the sums are %d and %d", slowSum(zero), slowSum(top))
	}
	for _, c := range []struct {
		old   []byte
		asked int
		want  api.Errno
	}{
		{zero, 0, api.OK},
		{zero, 65521, api.ErrSum}, // the same remainder, and yet another number
		{zero, 65535, api.ErrSum},
		{top, 65520, api.OK},
		{top, 65521, api.ErrSum},
		{nil, 1, api.OK},
		{nil, 65522, api.ErrSum},
		{nil, 0, api.ErrSum},
	} {
		p := api.Patch{From: 1, To: 2, Old: c.asked, New: slowSum(c.old), Size: len(c.old)}
		if len(c.old) > 0 {
			p.Ops = steps(take(0, len(c.old)))
		}
		if _, e := Do(p, c.old); e != c.want {
			t.Errorf("Do(%v, %v): error %d, want %d", p, c.old, e, c.want)
		}
		p.Old, p.New = p.New, p.Old // the image is copied as it is, so that its checksum is both
		if _, e := Do(p, c.old); e != c.want {
			t.Errorf("Do(%v, %v): error %d, want %d", p, c.old, e, c.want)
		}
	}
}

func TestReadOfPut(t *testing.T) { // P6.4
	next := numbers(7)
	for range 20000 {
		p := somePatch(next)
		b, e := Put(p)
		q, f := Read(b)
		if e != api.OK || f != api.OK || !plain(p, q) || !Same(p, q) {
			t.Fatalf("Put(%v) = %v, %d; Read of it: %v, %d", p, b, e, q, f)
		}
		checkRead(t, b)
	}
}

type reading struct {
	b    []byte
	want api.Errno
}

// checkReadings tries Read with bytes that it refuses, unless api.OK is wanted.
func checkReadings(t *testing.T, l []reading) {
	t.Helper()
	for i, c := range l {
		p, e := Read(c.b)
		if e != c.want || e != api.OK && !plain(p, api.Patch{}) {
			t.Errorf("%d: Read(%v) = %v, %d, want error %d", i, c.b, p, e, c.want)
		}
		checkRead(t, c.b)
	}
}

// head returns the first bytes of a patch to size bytes in n steps, and what follows.
func head(size, n byte, more ...byte) []byte {
	return append([]byte{1, 2, 0, 1, 0, 1, size, n}, more...)
}

func TestReadPrefixes(t *testing.T) { // P6.3: each prefix of a patch, and each with bytes that remain
	next := numbers(8)
	patches := []api.Patch{of(), of(put(letters(64))), of(take(0, 64)), of(put("\x00\x00"), take(0, 1)), of(times(40, put("q"))...)}
	for range 200 {
		patches = append(patches, somePatch(next))
	}
	for _, p := range patches {
		b, _ := Put(p)
		for n := range b {
			checkReadings(t, []reading{{b[:n], api.ErrTorn}, {bytes.Clone(b[:n]), api.ErrTorn}})
		}
		for _, more := range [][]byte{{0}, {255}, {0, 1}, {255, 1, 7}, {3, 0}, make([]byte, 100)} {
			checkReadings(t, []reading{{slices.Concat(b, more), api.ErrTorn}})
		}
		checkReadings(t, []reading{{b, api.OK}})
	}
}

func TestReadSteps(t *testing.T) { // P6.3
	checkReadings(t, []reading{
		{head(0, 0), api.OK},
		{head(1, 1, 0, 1), api.OK},
		{head(1, 1, 63, 1), api.OK},
		{head(64, 1, 0, 64), api.OK},
		{head(64, 1, append([]byte{255, 64}, letters(64)...)...), api.OK},
		{head(1, 1, 255, 1, 0), api.OK},
		{head(1, 1), api.ErrTorn},
		{head(1, 1, 0), api.ErrTorn},
		{head(1, 1, 255), api.ErrTorn},
		{head(1, 1, 255, 1), api.ErrTorn},
		{head(1, 1, 255, 2, 7), api.ErrTorn},
		{head(2, 2, 0, 1), api.ErrTorn},
		{head(2, 2, 0, 1, 0), api.ErrTorn},
		{head(1, 0, 0, 1), api.ErrTorn},
		{head(0, 255), api.ErrTorn},
		{head(1, 1, 3, 0), api.ErrForm}, // the length 0, from several places
		{head(0, 1, 3, 0), api.ErrForm},
		{head(0, 1, 0, 0), api.ErrForm},
		{head(0, 1, 254, 0), api.ErrForm},
		{head(1, 2, 0, 1, 3, 0), api.ErrForm},
		{head(1, 2, 255, 1, 7, 3, 0), api.ErrForm},
		{head(0, 1, 255, 0), api.ErrForm}, // no bytes to insert
		{head(1, 1, 255, 0), api.ErrForm},
		{head(1, 2, 255, 0, 0, 1), api.ErrForm},
		{head(1, 2, 0, 1, 255, 0), api.ErrForm},
	})
}

func TestReadChecks(t *testing.T) { // P6.3: the errors of Check
	checkReadings(t, []reading{
		{[]byte{0, 2, 0, 1, 0, 1, 0, 0}, api.ErrRange},
		{[]byte{31, 2, 0, 1, 0, 1, 0, 0}, api.ErrRange},
		{[]byte{255, 2, 0, 1, 0, 1, 0, 0}, api.ErrRange},
		{[]byte{1, 0, 0, 1, 0, 1, 0, 0}, api.ErrRange},
		{[]byte{1, 31, 0, 1, 0, 1, 0, 0}, api.ErrRange},
		{[]byte{1, 255, 0, 1, 0, 1, 0, 0}, api.ErrRange},
		{[]byte{1, 1, 0, 0, 0, 0, 0, 0}, api.OK},
		{[]byte{30, 30, 255, 255, 255, 255, 0, 0}, api.OK},
		{make([]byte, 8), api.ErrRange},
		{head(1, 0), api.ErrForm},
		{head(65, 0), api.ErrMany},
		{head(255, 0), api.ErrMany},
		{head(1, 1, 64, 1), api.ErrRange},
		{head(1, 1, 254, 1), api.ErrRange},
		{head(64, 1, 0, 65), api.ErrRange},
		{head(64, 1, 1, 64), api.ErrRange},
		{head(64, 1, 254, 255), api.ErrRange},
		{head(64, 1, append([]byte{255, 65}, letters(65)...)...), api.ErrForm},
		{head(64, 1, append([]byte{255, 255}, letters(255)...)...), api.ErrForm},
		{head(2, 1, 0, 1), api.ErrForm},
		{head(1, 1, 0, 2), api.ErrMany},
		{head(1, 1, 255, 2, 7, 7), api.ErrMany},
		{head(40, 40, bytes.Repeat([]byte{0, 1}, 40)...), api.OK},
		{head(41, 41, bytes.Repeat([]byte{0, 1}, 41)...), api.ErrMany},
		{head(0, 41, bytes.Repeat([]byte{255, 0}, 41)...), api.ErrMany},
		{head(64, 196, bytes.Repeat([]byte{0, 1}, 196)...), api.ErrMany},
	})
}

func TestReadFirstError(t *testing.T) { // P6.3, P3: two at once
	checkReadings(t, []reading{
		{head(1, 2, 3, 0), api.ErrForm},    // a length 0, then bytes are missing
		{head(1, 2, 3, 0, 0), api.ErrForm}, // the same
		{head(1, 1, 3, 0, 9), api.ErrForm}, // then bytes remain
		{head(65, 1, 3, 0), api.ErrForm},   // then Check
		{head(1, 2, 0, 1, 3), api.ErrTorn}, // bytes are missing, with no length yet
		{head(1, 3, 255, 9, 3, 0), api.ErrTorn},
		{head(65, 1, 0), api.ErrTorn},     // then Check
		{head(1, 2, 255, 0), api.ErrTorn}, // no bytes to insert are refused by Check, behind the rest
		{head(1, 2, 255, 0, 3), api.ErrTorn},
		{head(1, 1, 255, 0, 7), api.ErrTorn},
		{head(65, 0, 7), api.ErrTorn}, // bytes remain, then Check
		{head(1, 0, 3, 0), api.ErrTorn},
		{head(1, 1, 0, 2, 7), api.ErrTorn},
		{head(1, 1, 99, 1, 7), api.ErrTorn},
		{[]byte{0, 0}, api.ErrTorn},
		{[]byte{0, 2, 0, 1, 0, 1, 0, 1}, api.ErrTorn},
		{[]byte{0, 2, 0, 1, 0, 1, 0, 0, 0}, api.ErrTorn},
		{[]byte{0, 2, 0, 1, 0, 1, 0, 1, 3, 0}, api.ErrForm},
		{[]byte{0, 2, 0, 1, 0, 1, 0, 1, 255, 0}, api.ErrRange},
		{[]byte{0, 2, 0, 1, 0, 1, 65, 0}, api.ErrRange},
		{[]byte{1, 31, 0, 1, 0, 1, 1, 0}, api.ErrRange},
	})
}

func TestReadLength(t *testing.T) { // P6.3: just api.MaxPatch bytes and more
	filled := func(n int, b []byte) []byte { return append(b, make([]byte, n-len(b))...) }
	copies := head(64, 196, bytes.Repeat([]byte{0, 1}, 196)...) // 400 bytes, all of them read
	inserts := head(64, 2)
	inserts = append(append(inserts, 255, 190), make([]byte, 190)...)
	inserts = append(append(inserts, 255, 198), make([]byte, 198)...)
	noVersion := slices.Concat([]byte{0}, copies[1:])
	if len(copies) != 400 || len(inserts) != 400 {
		t.Fatalf("%d and %d bytes", len(copies), len(inserts))
	}
	checkReadings(t, []reading{
		{inserts, api.ErrForm}, // of Check: the bytes are not too many to be read
		{noVersion, api.ErrRange},
		{inserts[:399], api.ErrTorn},
		{append(inserts[:400:400], 0), api.ErrMany},
		{append(noVersion[:400:400], 0), api.ErrMany},
		{make([]byte, 399), api.ErrTorn},
		{make([]byte, 400), api.ErrTorn},
		{make([]byte, 401), api.ErrMany},
		{make([]byte, 402), api.ErrMany},
		{make([]byte, 656), api.ErrMany},
		{make([]byte, 100000), api.ErrMany},
		{filled(400, head(0, 0)), api.ErrTorn},
		{filled(401, head(0, 0)), api.ErrMany},
		{filled(400, head(1, 1, 3, 0)), api.ErrForm},
		{filled(401, head(1, 1, 3, 0)), api.ErrMany},
		{append(head(1, 2, 0, 1, 255, 255), letters(400)...), api.ErrMany},
	})
}

func TestReadShortBytes(t *testing.T) { // P6.3; P1: no panic
	values := []byte{0, 1, 2, 64, 65, 254, 255}
	all := [][]byte{nil}
	for i := 0; i < len(all) && len(all[i]) < 5; i++ {
		for _, x := range values {
			all = append(all, append(bytes.Clone(all[i]), x))
		}
	}
	for _, more := range all {
		for n := range byte(4) {
			for _, size := range []byte{0, 1, 2, 3, 64, 65} {
				checkRead(t, head(size, n, more...))
			}
		}
		checkRead(t, more)
		checkRead(t, append([]byte{1, 2, 3}, more...))
	}
}

func TestReadChangedBytes(t *testing.T) { // P6.3; P1: no panic
	next := numbers(9)
	for range 4000 {
		b, _ := Put(somePatch(next))
		for range 10 {
			c := bytes.Clone(b)
			for range 1 + next(3) {
				c[next(len(c))] = []byte{0, 1, 64, 255, byte(next(256))}[next(5)]
			}
			checkRead(t, c)
			at := next(len(c))
			checkRead(t, slices.Delete(c, at, at+1))
		}
	}
}

func TestReadAnyBytes(t *testing.T) { // P1: no panic
	next := numbers(10)
	for range 20000 {
		b := make([]byte, next(420))
		for i := range b {
			b[i] = byte(next(256))
		}
		checkRead(t, b)
	}
}

// roomy returns the patch with something behind each of its lists.
func roomy(p api.Patch) api.Patch {
	l := append(make([]api.Op, 0, 100), p.Ops...)
	for i := range l {
		l[i].Data = append(append(make([]byte, 0, 100), l[i].Data...), "behind"...)[:len(l[i].Data)]
	}
	p.Ops = append(l, put("behind"), take(0, 1))[:len(l)]
	return p
}

func TestOnlyArgumentsCount(t *testing.T) { // P1: not what was called before, not what lies behind the lists
	old, b := []byte("abcdefgh"), []byte("xefghabcd")
	want, _ := Make(1, 2, old, b)
	encoded := []byte{1, 2, 128, 244, 182, 115, 9, 3, 255, 1, 'x', 4, 4, 0, 4}
	Make(3, 4, []byte("zzzzzz"), []byte("zzzzyy"))
	Put(of(put("zzz")))
	Read(head(1, 1, 255, 1, 0))
	Do(of(), nil)
	more := func(b []byte) []byte { return append(append(make([]byte, 0, 100), b...), "efgh"...)[:len(b)] }
	for _, o := range [][]byte{old, bytes.Clone(old), more(old)} {
		for _, n := range [][]byte{b, more(b)} {
			if p, e := Make(1, 2, o, n); e != api.OK || !plain(p, want) {
				t.Errorf("Make of the same images: %v, %d", p, e)
			}
		}
		for _, p := range []api.Patch{want, cloned(want), roomy(want)} {
			if n, e := Do(p, o); e != api.OK || !bytes.Equal(n, b) {
				t.Errorf("Do of the same patch: %q, %d", n, e)
			}
			if x, e := Put(p); e != api.OK || !bytes.Equal(x, encoded) {
				t.Errorf("Put of the same patch: %v, %d", x, e)
			}
			if !Same(p, want) || Check(p) != api.OK {
				t.Errorf("Same of the same patch: %v, Check: %d", Same(p, want), Check(p))
			}
		}
	}
	for _, x := range [][]byte{encoded, more(encoded)} {
		if p, e := Read(x); e != api.OK || !plain(p, want) {
			t.Errorf("Read of the same bytes: %v, %d", p, e)
		}
	}
}

func TestArgumentsAreOnlyRead(t *testing.T) { // P2: also what lies behind them
	next := numbers(11)
	data, image := rising(100, 0), rising(100, 100)
	for range 2000 {
		p := somePatch(next)
		for i := range p.Ops {
			if n := len(p.Ops[i].Data); n > 0 { // all Data of one array has what follows as its spare capacity
				at := next(len(data) - n)
				p.Ops[i].Data = data[at : at+n]
			}
		}
		p.Ops = append(p.Ops, put("behind"), take(0, 1))
		was := cloned(p)
		given := p
		given.Ops = p.Ops[:len(p.Ops)-2]
		old := image[:next(80)]
		given.Old = slowSum(old)
		x, _ := Put(given)
		x = append(x, "behind"...)
		wasX := bytes.Clone(x)
		Check(given)
		Same(given, p)
		Do(given, old)
		Do(p, old)
		Put(p)
		Make(1, 2, old, data[:next(80)])
		Read(x)
		Read(x[:len(x)-6])
		if !plain(p, was) || !bytes.Equal(x, wasX) || !bytes.Equal(data, rising(100, 0)) || !bytes.Equal(image, rising(100, 100)) {
			t.Fatalf("arguments have changed: %v is %v, %v is %v", was, p, wasX, x)
		}
	}
}

// spoil writes into every byte of a list and of its spare capacity.
func spoil(b []byte) {
	b = b[:cap(b)]
	for i := range b {
		b[i] ^= 0xff
	}
}

// spoilSteps writes into every step of a list, into its Data, and into the spare capacity of both.
func spoilSteps(l []api.Op) {
	l = l[:cap(l)]
	for i := range l {
		spoil(l[i].Data)
		l[i] = take(-7, -7)
	}
}

// checkOwnLists says whether the lists of p, which equals want, share memory with each other.
func checkOwnLists(t *testing.T, p, want api.Patch) {
	t.Helper()
	for i := range p.Ops {
		spoil(p.Ops[i].Data)
		p.Ops[i].Data = bytes.Clone(want.Ops[i].Data)
		if !plain(p, want) {
			t.Errorf("Data of step %d of %v shares memory with other Data", i, want)
		}
	}
}

func TestReadIsNew(t *testing.T) { // P2: it shares no memory with the bytes, nor Data with other Data
	want := of(put("ab"), put("cd"), take(0, 4), put("e"))
	b, _ := Put(want)
	was := bytes.Clone(b)
	p, _ := Read(b)
	again, _ := Read(b)
	third, _ := Read(b)
	checkOwnLists(t, p, want)
	spoilSteps(third.Ops)
	if !bytes.Equal(b, was) {
		t.Errorf("the patch shares memory with its bytes: %v", b)
	}
	spoil(b)
	if !plain(again, want) {
		t.Errorf("the bytes were kept: %v", again)
	}
}

func TestMakeIsNew(t *testing.T) { // P2: it shares no memory with the images, nor Data with other Data
	old, b := []byte("abcdefgh"), []byte("xyabcdzwefghuv")
	want, _ := Make(1, 2, bytes.Clone(old), bytes.Clone(b))
	want = cloned(want)
	p, _ := Make(1, 2, old, b)
	again, _ := Make(1, 2, old, b)
	third, _ := Make(1, 2, old, b)
	checkOwnLists(t, p, want)
	spoilSteps(third.Ops)
	if string(old) != "abcdefgh" || string(b) != "xyabcdzwefghuv" {
		t.Errorf("the patch shares memory with an image: %q, %q", old, b)
	}
	spoil(old)
	spoil(b)
	if !plain(again, want) {
		t.Errorf("the images were kept: %v", again)
	}
}

func TestBytesAreNew(t *testing.T) { // P2: of Put and Do
	for _, l := range [][]api.Op{steps(take(0, 8)), steps(put("abcdefgh")), steps(put("abcd"), take(4, 4))} {
		old := []byte("abcdefgh")
		p := with(of(l...), func(p *api.Patch) { p.Old, p.New = slowSum(old), slowSum(old) })
		was := cloned(p)
		x, _ := Put(p)
		xAgain, _ := Put(p)
		wantX := bytes.Clone(x)
		b, _ := Do(p, old)
		bAgain, _ := Do(p, old)
		spoil(x)
		spoil(b)
		if !plain(p, was) || string(old) != "abcdefgh" {
			t.Errorf("a result for %v shares memory with an argument", was)
		}
		spoil(old)
		spoilSteps(p.Ops)
		if !bytes.Equal(xAgain, wantX) || string(bAgain) != "abcdefgh" {
			t.Errorf("the arguments %v were kept: %v, %q", was, xAgain, bAgain)
		}
	}
}
