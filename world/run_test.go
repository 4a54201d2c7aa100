package world

import (
	"bytes"
	"fmt"
	"slices"
	"testing"

	"cobbler/api"
	"cobbler/chunk"
	"cobbler/device"
)

func TestRunNothing(t *testing.T) { // P11.3: a script of no events
	for _, w := range fine() {
		checkRun(t, w, nil, w, nil, api.OK)
		checkRun(t, w, []api.Happening{}, w, nil, api.OK)
	}
}

func TestRunCounts(t *testing.T) { // P11.3: api.MaxScript events, and more
	w := with(fresh(), func(w *api.World) { w.Net = mixed() })
	for _, n := range []int{1, 2, 199, 200} {
		checkRun(t, w, make([]api.Happening, n), w, slices.Repeat([]api.Errno{api.ErrForm}, n), api.OK)
		checkRun(t, w, slices.Repeat([]api.Happening{of(api.HTwice, 1)}, n), done(t, w, of(api.HTwice, 1)), make([]api.Errno, n), api.OK)
	}
	for _, n := range []int{201, 202, 256, 400, 100000} {
		checkRun(t, w, make([]api.Happening, n), api.World{}, nil, api.ErrMany)
		checkRun(t, w, slices.Repeat([]api.Happening{of(api.HTwice, 1)}, n), api.World{}, nil, api.ErrMany)
	}
	l := slices.Concat(slices.Repeat([]api.Happening{of(api.HSend, 0)}, 199), []api.Happening{of(api.HCrash, 0)})
	after, said, e := Run(w, l)
	if e != api.OK || len(said) != 200 || said[199] != api.OK || after.D.Up {
		t.Errorf("the last one of 200 events: %v, %v, %d", after, said, e)
	}
}

func TestRunErrors(t *testing.T) { // P11.3: the error of Check, before that of too many events
	for want, l := range spoiled() {
		for _, d := range l {
			w := api.World{R: releases(), D: d}
			for _, n := range []int{0, 1, 200, 201, 1000} {
				checkRun(t, w, make([]api.Happening, n), api.World{}, nil, want)
			}
		}
	}
	bad := with(fresh(), func(w *api.World) { w.Net = []api.Chunk{{}} })
	checkRun(t, bad, make([]api.Happening, 201), api.World{}, nil, api.ErrRange)
}

func TestRunGoesOn(t *testing.T) { // P11.3: events with an error between events without one
	good := []api.Happening{of(api.HSend, 2), of(api.HHear, 2), of(api.HTwice, 1), of(api.HLose, 1), of(api.HHear, 0), of(api.HOpen, 0),
		of(api.HWrite, 0), of(api.HWrite, 0), of(api.HWrite, 0), of(api.HWrite, 0), of(api.HFinish, 0), of(api.HCrash, 0), of(api.HBoot, 0), of(api.HConfirm, 0)}
	if len(pieces(1, 2)) != 3 {
		t.Fatalf("%d chunks", len(pieces(1, 2)))
	}
	want := done(t, fresh(), good...)
	checkRuns(t, want, 2, true)
	checkRun(t, fresh(), good, want, make([]api.Errno, len(good)), api.OK)
	bad := []struct {
		x api.Happening
		e api.Errno
	}{{of(0, 0), api.ErrForm}, {of(13, 0), api.ErrForm}, {of(api.HSend, 0), api.ErrWho}, {of(api.HSend, 6), api.ErrWho}, {of(api.HHear, 3), api.ErrWho}, {of(api.HTwice, -1), api.ErrWho}, {of(api.HLose, 120), api.ErrWho}}
	for i, b := range bad {
		var l []api.Happening
		var said []api.Errno
		for k, x := range good {
			y := bad[(i+k)%len(bad)]
			l = append(l, b.x, y.x, x)
			said = append(said, b.e, y.e, api.OK)
		}
		l, said = append(l, b.x), append(said, b.e)
		checkRun(t, fresh(), l, want, said, api.OK)
	}
	late := []api.Happening{of(api.HBoot, 0), of(api.HOpen, 0), of(api.HWrite, 0), of(api.HTear, 8), of(api.HFinish, 0), of(api.HTearRec, 0), of(api.HConfirm, 0)}
	checkRun(t, fresh(), late, fresh(), slices.Repeat([]api.Errno{api.ErrLate}, 7), api.OK)
	twice := []api.Happening{of(api.HCrash, 0), of(api.HCrash, 0), of(api.HBoot, 0), of(api.HBoot, 0)}
	checkRun(t, fresh(), twice, fresh(), []api.Errno{api.OK, api.ErrLate, api.OK, api.ErrLate}, api.OK)
}

func TestErrorHasNoEffect(t *testing.T) { // P11.2, P11.3: an event with an error leaves the world as it was
	for _, w := range fine() {
		was := text(w)
		for _, x := range all() {
			_, e := Do(w, x)
			if text(w) != was {
				t.Fatalf("%v has changed its argument: %s is %v", x, was, w)
			}
			if e != api.OK {
				checkRun(t, w, []api.Happening{x}, own(w), []api.Errno{e}, api.OK)
			}
		}
	}
}

func TestRoomAgain(t *testing.T) { // P11.2, P11.3: what is lost makes room
	w := with(fresh(), func(w *api.World) { w.Net = filled(120) })
	l := []api.Happening{of(api.HSend, 2), of(api.HLose, 119), of(api.HSend, 2), of(api.HLose, 0), of(api.HSend, 2), of(api.HLose, 50), of(api.HSend, 2), of(api.HSend, 1)}
	said := []api.Errno{api.ErrMany, api.OK, api.ErrMany, api.OK, api.ErrMany, api.OK, api.OK, api.ErrMany}
	left := slices.Delete(filled(119)[1:], 50, 51)
	want := with(w, func(w *api.World) { w.Net = append(left, pieces(1, 2)...) })
	checkRun(t, w, l, want, said, api.OK)
}

// orders are ways to pick chunks one by one: the number of the next one, of those that are left.
func orders(next func(int) int) []func(left int) int {
	return []func(int) int{
		func(int) int { return 0 },
		func(left int) int { return left - 1 },
		func(left int) int { return left / 2 },
		func(left int) int { return next(left) },
	}
}

// update returns the world after the release n was sent, and is installed and confirmed; some chunks come twice, all are lost once.
func update(t *testing.T, w api.World, n int, order func(int) int) api.World {
	t.Helper()
	from := reading(w).In[w.D.Running].Version
	w = done(t, w, of(api.HSend, n))
	size := len(w.Net)
	w = done(t, w, of(api.HTwice, order(size)), of(api.HTwice, order(size)))
	for left := len(w.Net); left > 0; left-- {
		w = done(t, w, of(api.HLose, order(left)))
	}
	w = done(t, w, of(api.HSend, n), of(api.HSend, n))
	for left := 2 * size; left > size; left-- {
		w = done(t, w, of(api.HLose, left-1), of(api.HTwice, order(left-1)))
	}
	for left := size; left > 0; left-- {
		w = done(t, w, of(api.HHear, order(left)))
	}
	checkError(t, w, of(api.HHear, 0), api.ErrWho)
	w = done(t, w, of(api.HOpen, 0))
	for range (len(w.R[n-1]) + 7) / 8 {
		checkError(t, w, of(api.HFinish, 0), api.ErrLate)
		w = done(t, w, of(api.HWrite, 0))
		checkRuns(t, w, from, true)
	}
	w = done(t, w, of(api.HFinish, 0))
	checkRuns(t, w, from, true)
	w = done(t, w, of(api.HCrash, 0), of(api.HBoot, 0))
	checkRuns(t, w, n, false)
	w = done(t, w, of(api.HConfirm, 0))
	checkRuns(t, w, n, true)
	return w
}

func TestWholeUpdates(t *testing.T) { // P11.2: sent, heard in some order and twice, lost and sent again, opened, written, finished, started, confirmed
	next := numbers(4)
	for _, order := range orders(next) {
		var l [][]byte
		for _, n := range []int{8, 9, 64, 0, 1, 64, 7, 63, 56, 57} {
			b := make([]byte, n)
			for k := range b {
				b[k] = byte(next(9) * 28)
			}
			l = append(l, b)
		}
		w, e := New(l)
		if e != api.OK {
			t.Fatalf("New: %d", e)
		}
		for n := 1; n <= len(l); n++ { // the first one leads to the version that is there
			w = update(t, w, n, order)
		}
		w = done(t, w, of(api.HCrash, 0), of(api.HBoot, 0))
		checkRuns(t, w, len(l), true)
		far, _ := New(l)
		checkRuns(t, update(t, far, len(l), order), len(l), true)
	}
}

func TestNotConfirmed(t *testing.T) { // P11.2: what is tried three times and never confirmed is not tried again
	w := done(t, fresh(), of(api.HSend, 3))
	for range pieces(1, 3) {
		w = done(t, w, of(api.HHear, 0))
	}
	w = done(t, w, of(api.HOpen, 0), of(api.HFinish, 0))
	for range 3 {
		w = done(t, w, of(api.HCrash, 0), of(api.HBoot, 0))
		checkRuns(t, w, 3, false)
	}
	for range 3 {
		w = done(t, w, of(api.HCrash, 0), of(api.HBoot, 0))
		checkRuns(t, w, 1, true)
	}
}

// someWorld returns a world after some events, most of which succeed.
func someWorld(next func(int) int) api.World {
	var l [][]byte
	for range 1 + next(4) {
		b := make([]byte, []int{0, 1, 7, 8, 9, 20, 63, 64}[next(8)])
		for i := range b {
			b[i] = "abab\x00"[next(5)]
		}
		l = append(l, b)
	}
	w, _ := New(l)
	for range next(40) {
		after, e := Do(w, someEvent(w, next))
		if e == api.OK {
			w = after
		}
	}
	return w
}

// someEvent returns an event that suits the world in most cases.
func someEvent(w api.World, next func(int) int) api.Happening {
	d := w.D
	switch {
	case next(8) == 0:
		return of(next(14), next(8)-2)
	case !d.Up:
		return of(api.HBoot, 0)
	case d.Busy && d.Done < d.Job.Size:
		return of(api.HWrite, 0)
	case d.Busy:
		return of([]int{api.HFinish, api.HFinish, api.HTearRec}[next(3)], 0)
	case reading(w).Trying:
		return of([]int{api.HCrash, api.HConfirm}[next(2)], 0)
	case len(d.Got) > 0 && len(d.Got) == d.Got[0].Of && next(4) > 0:
		return of(api.HOpen, 0)
	case len(w.Net) == 0 || next(8) == 0:
		return of(api.HSend, 1+next(len(w.R)))
	}
	return of(api.HHear, next(len(w.Net)))
}

// spoil changes a world in one field, so that it is not valid any more in most cases.
func spoil(w *api.World, next func(int) int) {
	odd := append(extremes(), 0, 1, 2, 7, 8, 16, 64, 65)
	x := odd[next(len(odd))]
	few := []func(){
		func() { w.R = w.R[:next(len(w.R)+1)] },
		func() { w.R = append(w.R, make([]byte, 64+next(2))) },
		func() { w.R = append(w.R, make([][]byte, max(0, 30-len(w.R)+next(2)))...) },
		func() { w.Net = append(w.Net, filled(120-len(w.Net)+next(2))...) },
		func() { w.Net = append(w.Net, api.Chunk{From: x, To: 2, N: 0, Of: 1, Data: []byte{1}}) },
		func() { w.Net = append(w.Net, api.Chunk{From: 1, To: 2, N: 1, Of: 2 + next(2), Data: []byte{1}}) },
		func() { w.Net = append(w.Net, api.Chunk{From: 1, To: 2, N: 0, Of: 1, Data: make([]byte, next(18))}) },
		func() { w.D = newer(1 + next(30)) },
		func() { w.D.Slots[next(2)][next(9)]++ },
		func() { w.D.Slots[next(2)][next(9)]++ },
		func() { w.D.Copies[next(2)] = api.Copy{} },
		func() { w.D.Copies = [2]api.Copy{} },
		func() { w.D.Copies[next(2)].R.Gen = x },
		func() { w.D.Copies[next(2)].R.In[next(2)].Size = x },
		func() { w.D.Up = !w.D.Up },
		func() { w.D.Running = x },
		func() { w.D.Done = x },
		func() { w.D.Busy = !w.D.Busy },
		func() { w.D.Job.To = x },
	}
	few[next(len(few))]()
}

func TestSomeWorlds(t *testing.T) { // P11.1 to P11.3: all functions return what the slow ones do; P1: no panic
	next := numbers(5)
	counts := map[string]int{}
	for range 4000 {
		w := someWorld(next)
		for range max(0, next(5)-2) {
			spoil(&w, next)
		}
		was := text(w)
		want := slowCheck(w)
		if e := Check(w); e != want {
			t.Fatalf("Check(%v) = %d, want %d", w, e, want)
		}
		counts[fmt.Sprint("Check ", want)]++
		for kind := range 14 {
			for _, n := range []int{next(6) - 1, next(len(w.Net) + 1), 120} {
				x := of(kind, n)
				after, e := slowDo(w, x)
				check(t, w, x, after, e)
				counts[fmt.Sprint(kind, " ", e)]++
			}
		}
		if text(w) != was {
			t.Fatalf("the argument has changed: %s is %v", was, w)
		}
		if t.Failed() {
			return
		}
	}
	for kind, errors := range map[any][]api.Errno{
		"Check":      {api.OK, api.ErrMany, api.ErrRange, api.ErrForm, api.ErrSum, api.ErrTorn},
		0:            {api.ErrForm},
		13:           {api.ErrForm},
		api.HSend:    {api.OK, api.ErrWho, api.ErrMany},
		api.HHear:    {api.OK, api.ErrWho, api.ErrLate},
		api.HTwice:   {api.OK, api.ErrWho, api.ErrLate},
		api.HLose:    {api.OK, api.ErrWho},
		api.HOpen:    {api.OK, api.ErrLate},
		api.HWrite:   {api.OK, api.ErrLate},
		api.HFinish:  {api.OK, api.ErrLate},
		api.HConfirm: {api.OK, api.ErrLate},
		api.HCrash:   {api.OK, api.ErrLate},
		api.HBoot:    {api.OK, api.ErrLate},
		api.HTear:    {api.OK, api.ErrLate},
		api.HTearRec: {api.OK, api.ErrLate},
	} {
		for _, e := range errors {
			if n := counts[fmt.Sprint(kind, " ", e)]; n < 10 {
				t.Errorf("only %d times %v with %d", n, kind, e)
			}
		}
	}
}

func TestSomeScripts(t *testing.T) { // P11.3: what the slow Run returns, for scripts of all lengths and worlds that are valid or not
	next := numbers(6)
	installed := 0
	for range 1500 {
		w := someWorld(next)
		if next(8) == 0 {
			spoil(&w, next)
		}
		var l []api.Happening
		v := w
		for range next(210) {
			x := of(next(14), next(8)-2)
			if Check(v) == api.OK && next(4) > 0 {
				x = someEvent(v, next)
			}
			if after, e := slowDo(v, x); e == api.OK {
				v = after
			}
			l = append(l, x)
		}
		want, said, e := slowRun(w, l)
		checkRun(t, w, l, want, said, e)
		if e == api.OK && reading(want).Floor > reading(w).Floor {
			installed++
		}
		if t.Failed() {
			return
		}
	}
	if installed < 100 {
		t.Errorf("only %d scripts install a version", installed)
	}
}

func TestRunningIsRelease(t *testing.T) { // P11.2, P11.3: after each event, and after a restart
	next := numbers(7)
	for range 300 {
		w, _ := New(someWorld(next).R)
		for range 100 {
			after, said, e := Run(w, []api.Happening{someEvent(w, next)})
			if e != api.OK || len(said) != 1 || Check(after) != api.OK {
				t.Fatalf("Run: %v, %v, %d", after, said, e)
			}
			if reading(after).Floor < reading(w).Floor {
				t.Fatalf("below a version that was confirmed: %v", after)
			}
			w = after
			up := w
			if !up.D.Up {
				up = done(t, w, of(api.HBoot, 0))
			}
			in := reading(up).In[up.D.Running]
			if !bytes.Equal(up.D.Slots[up.D.Running][:in.Size], up.R[in.Version-1]) {
				t.Fatalf("no release runs: %v", up)
			}
		}
	}
}

// memory collects lists with spare capacity, to look at all of it.
type memory struct{ l []any }

func (m *memory) bytes(b []byte) []byte {
	r := append(bytes.Clone(b), 91, 92, 93)
	m.l = append(m.l, r)
	return r[:len(b)]
}

func (m *memory) chunks(l []api.Chunk) []api.Chunk {
	r := append(ownChunks(l), api.Chunk{N: 94}, api.Chunk{N: 95})
	m.l = append(m.l, r)
	for i := range l {
		r[i].Data = m.bytes(r[i].Data)
	}
	return r[:len(l)]
}

func (m *memory) images(l [][]byte) [][]byte {
	r := append(ownImages(l), []byte{96}, []byte{97})
	m.l = append(m.l, r)
	for i := range l {
		r[i] = m.bytes(r[i])
	}
	return r[:len(l)]
}

func (m *memory) world(w api.World) api.World {
	w = own(w)
	w.R, w.Net, w.D.Got = m.images(w.R), m.chunks(w.Net), m.chunks(w.D.Got)
	for k := range w.D.Slots {
		w.D.Slots[k] = m.bytes(w.D.Slots[k])
	}
	ops := append(w.D.Job.Ops, api.Op{At: 98}, api.Op{At: 99})
	m.l = append(m.l, ops)
	w.D.Job.Ops = ops[:len(ops)-2]
	for i := range w.D.Job.Ops {
		w.D.Job.Ops[i].Data = m.bytes(w.D.Job.Ops[i].Data)
	}
	return w
}

func TestArgumentsAreOnlyRead(t *testing.T) { // P2: neither lists nor their spare capacity
	for _, start := range append(fine(), with(fresh(), func(w *api.World) { w.D.Slots[0] = nil }), with(fresh(), func(w *api.World) { w.Net = []api.Chunk{{}} })) {
		m := &memory{}
		w := m.world(start)
		l := append(all(), of(95, 96), of(97, 98))
		short := l[:len(l)-2]
		was, script := fmt.Sprint(m.l), slices.Clone(l)
		Check(w)
		Same(w, w)
		New(w.R)
		Run(w, short)
		for _, x := range all() {
			Do(w, x)
			if fmt.Sprint(m.l) != was {
				t.Fatalf("%v has changed its argument: %s is %v", x, was, m.l)
			}
		}
		if fmt.Sprint(m.l) != was || !slices.Equal(l, script) {
			t.Fatalf("an argument has changed: %s is %v, %v is %v", was, m.l, script, l)
		}
	}
}

// lists returns all lists of bytes of a world, with their spare capacity.
func lists(w api.World) [][]byte {
	l := append([][]byte{w.D.Slots[0], w.D.Slots[1]}, w.R...)
	for _, c := range slices.Concat(w.D.Got, w.Net) {
		l = append(l, c.Data)
	}
	for _, o := range w.D.Job.Ops {
		l = append(l, o.Data)
	}
	for i := range l {
		l[i] = l[i][:cap(l[i])]
	}
	return l
}

// scribble overwrites all memory of a world.
func scribble(w api.World) {
	for _, b := range lists(w) {
		for i := range b {
			b[i] += 101
		}
	}
	for _, l := range [][]api.Chunk{w.D.Got[:cap(w.D.Got)], w.Net[:cap(w.Net)]} {
		for i := range l {
			l[i] = api.Chunk{N: 77}
		}
	}
	for i := range w.D.Job.Ops {
		w.D.Job.Ops[i] = api.Op{At: 77}
	}
	for i := range w.R {
		w.R[i] = []byte{77}
	}
}

// checkApart says whether no two lists of a world share memory.
func checkApart(t *testing.T, name any, w api.World) {
	t.Helper()
	for i, b := range lists(w) {
		for k := range b {
			b[k] = byte(i)
		}
	}
	for i, b := range lists(w) {
		if slices.ContainsFunc(b, func(x byte) bool { return x != byte(i) }) {
			t.Errorf("%v: list %d shares memory with another one", name, i)
		}
	}
	got, net := w.D.Got[:cap(w.D.Got)], w.Net[:cap(w.Net)]
	for i := range got {
		got[i] = api.Chunk{N: 1}
	}
	for i := range net {
		net[i] = api.Chunk{N: 2}
	}
	if slices.ContainsFunc(got, func(c api.Chunk) bool { return c.N != 1 }) {
		t.Errorf("%v: the chunks of the device are those of the network", name)
	}
}

func TestResultsAreNew(t *testing.T) { // P2: neither the result nor the argument changes if the other one's memory does
	good := 0
	for _, start := range fine() {
		for _, x := range all() {
			w := own(start)
			got, e := Do(w, x)
			if e != api.OK {
				continue
			}
			good++
			was := text(got)
			scribble(w)
			if text(got) != was {
				t.Errorf("%v: the result was %s, and is %v", x, was, got)
			}
			w = own(start)
			got, _ = Do(w, x)
			scribble(got)
			if text(w) != text(start) {
				t.Errorf("%v: the argument was %v, and is %v", x, start, w)
			}
			got, _ = Do(w, x)
			checkApart(t, x, got)
		}
	}
	if good < 500 {
		t.Errorf("only %d results", good)
	}
}

func TestRunResultsAreNew(t *testing.T) { // P2: also if no event succeeds, or none is there
	for _, start := range fine() {
		for _, l := range [][]api.Happening{nil, {of(0, 0)}, {of(api.HSend, 0), of(13, 1)}, {of(api.HLose, 0), of(0, 0)}, {of(api.HCrash, 0), of(api.HSend, 2)}, all()} {
			w := own(start)
			got, said, e := Run(w, l)
			if e != api.OK {
				t.Fatalf("Run: %d", e)
			}
			was, wasSaid := text(got), slices.Clone(said)
			scribble(w)
			script := slices.Clone(l)
			for i := range l {
				l[i] = of(77, 77)
			}
			if text(got) != was || !slices.Equal(said, wasSaid) {
				t.Errorf("Run: the result was %s, %v, and is %v, %v", was, wasSaid, got, said)
			}
			copy(l, script)
			w = own(start)
			got, _, _ = Run(w, l)
			scribble(got)
			if text(w) != text(start) {
				t.Errorf("Run: the argument was %v, and is %v", start, w)
			}
			got, _, _ = Run(w, l)
			checkApart(t, "Run", got)
		}
	}
}

func TestNewResultsAreNew(t *testing.T) { // P2
	l := releases()
	w, _ := New(l)
	was := text(w)
	for i := range l {
		for k := range l[i] {
			l[i][k]++
		}
		l[i] = []byte{77}
	}
	if text(w) != was {
		t.Errorf("New: the result was %s, and is %v", was, w)
	}
	checkApart(t, "New", w)
	l = releases()
	w, _ = New(l)
	scribble(w)
	if fmt.Sprint(l) != fmt.Sprint(releases()) {
		t.Errorf("New: the argument is %v", l)
	}
}

func TestSharedArguments(t *testing.T) { // P2: lists of an argument may share memory, those of a result do not
	b := upTo(64, 1, 1)
	w, e := New(slices.Repeat([][]byte{b}, 30))
	if e != api.OK {
		t.Fatalf("New: %d", e)
	}
	checkApart(t, "New", w)
	var net []api.Chunk
	for n := range 4 {
		net = append(net, api.Chunk{From: 1, To: 2, N: n, Of: 5, Data: b[:16]})
	}
	d := newDevice(b)
	d.Slots[0], d.Got = b, net[:3]
	w = api.World{R: slices.Repeat([][]byte{b}, 4), D: d, Net: net}
	checkAccepted(t, w)
	was := text(w)
	for _, x := range []api.Happening{of(api.HSend, 3), of(api.HHear, 3), of(api.HTwice, 3), of(api.HTwice, 0), of(api.HLose, 0), of(api.HCrash, 0)} {
		got, e := Do(w, x)
		want, _ := slowDo(w, x)
		if e != api.OK || text(got) != text(want) {
			t.Fatalf("Do of %v: %v, %d", x, got, e)
		}
		checkApart(t, x, got)
		got, _, _ = Run(w, []api.Happening{x, of(0, 0)})
		checkApart(t, x, got)
		if text(w) != was {
			t.Fatalf("%v has changed its argument: %v", x, w)
		}
	}
	got, _, _ := Run(w, nil)
	checkApart(t, "Run", got)
}

func TestOnlyArgumentsCount(t *testing.T) { // P1: not what was called before
	next := numbers(8)
	for range 100 {
		w := someWorld(next)
		for _, x := range all() {
			want, wantError := Do(w, x)
			was := text(want)
			y := someWorld(next)
			Do(y, someEvent(y, next))
			got, e := Do(own(w), x)
			if text(got) != was || e != wantError {
				t.Fatalf("%v of %v: first %s, %d, then %v, %d", x, w, was, wantError, got, e)
			}
		}
	}
}

func TestNoPanic(t *testing.T) { // P1: nil, zero, and values of every field as large and as small as an int can be
	for _, x := range append(extremes(), 0, 1) {
		info := api.Info{Version: x, Size: x, Sum: x}
		r := api.Record{Gen: x, Active: x, Trying: true, Tries: x, Floor: x, In: [2]api.Info{info, info}}
		c := api.Chunk{From: x, To: x, N: x, Of: x}
		p := api.Patch{From: x, To: x, Old: x, New: x, Size: x, Ops: []api.Op{{At: x, Len: x}}}
		d := api.Device{Copies: [2]api.Copy{{OK: true, R: r}, {OK: true, R: r}}, Up: true, Running: x, Got: []api.Chunk{c}, Busy: true, Job: p, Done: x}
		whole := d
		whole.Slots = [2][]byte{make([]byte, 64), make([]byte, 64)}
		checkRefused(t, api.World{D: d, Net: []api.Chunk{c}}, api.ErrMany)
		checkRefused(t, api.World{R: releases(), D: d, Net: []api.Chunk{c}}, api.ErrForm)
		checkRefused(t, api.World{R: releases(), D: whole, Net: []api.Chunk{c}}, device.Check(whole))
		checkRefused(t, api.World{R: releases(), D: fresh().D, Net: []api.Chunk{c}}, chunk.Check(c))
		if w := (api.World{D: d, Net: []api.Chunk{c}}); !Same(w, own(w)) || Same(w, api.World{}) {
			t.Errorf("Same of %v", w)
		}
		for _, y := range append(extremes(), 0, 1) {
			for _, w := range []api.World{fresh(), with(fresh(), func(w *api.World) { w.Net = mixed() })} {
				want, e := slowDo(w, of(x, y))
				check(t, w, of(x, y), want, e)
			}
		}
	}
}
