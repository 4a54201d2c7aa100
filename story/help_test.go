package story

import (
	"bytes"
	"fmt"
	"math"
	"slices"
	"testing"

	"cobbler/api"
	"cobbler/record"
	"cobbler/sum"
	"cobbler/world"
)

// numbers returns a source of numbers below a limit; they look random and are the same each time.
func numbers(seed uint64) func(int) int {
	return func(limit int) int {
		seed = seed*6364136223846793005 + 1442695040888963407
		return int(seed >> 33 % uint64(limit))
	}
}

// extremes are values that hardly any field may have.
func extremes() []int {
	return []int{-1, -2, -8, 1000001, math.MaxInt32, math.MinInt32, 1 << 32, 1<<32 + 1, 1<<32 + 8, math.MaxInt, math.MaxInt - 7, math.MinInt, math.MinInt + 8}
}

// text shows a world with all of its fields; nil and empty lists look alike.
func text(w api.World) string { return fmt.Sprintf("%v", w) }

// mapped returns a new list of what f returns for each element, with some more behind it as spare capacity.
func mapped[T any](l []T, f func(T) T, more ...T) []T {
	m := make([]T, 0, len(l)+len(more))
	for _, x := range l {
		m = append(m, f(x))
	}
	return append(m, more...)[:len(l)]
}

// own returns a world with memory of its own; each list has marks behind it.
func own(w api.World) api.World {
	list := func(b []byte) []byte { return mapped(b, func(x byte) byte { return x }, 91, 92, 93) }
	chunk := func(c api.Chunk) api.Chunk {
		c.Data = list(c.Data)
		return c
	}
	step := func(o api.Op) api.Op {
		o.Data = list(o.Data)
		return o
	}
	w.R = mapped(w.R, list, []byte{94}, []byte{95})
	w.Net = mapped(w.Net, chunk, api.Chunk{N: 96})
	w.D.Slots = [2][]byte{list(w.D.Slots[0]), list(w.D.Slots[1])}
	w.D.Got = mapped(w.D.Got, chunk, api.Chunk{N: 97})
	w.D.Job.Ops = mapped(w.D.Job.Ops, step, api.Op{At: 98})
	return w
}

// whole returns a world with the same memory, but each list includes its spare capacity.
func whole(w api.World) api.World {
	list := func(b []byte) []byte { return b[:cap(b)] }
	w.R, w.Net = mapped(w.R[:cap(w.R)], list), w.Net[:cap(w.Net)]
	w.D.Slots = [2][]byte{list(w.D.Slots[0]), list(w.D.Slots[1])}
	w.D.Got, w.D.Job.Ops = w.D.Got[:cap(w.D.Got)], w.D.Job.Ops[:cap(w.D.Job.Ops)]
	return w
}

// scribble overwrites the bytes of a world, and its other lists.
func scribble(w api.World) {
	images := w.R[:cap(w.R)]
	w = whole(w)
	for _, b := range append(w.R, w.D.Slots[0], w.D.Slots[1]) {
		for i := range b {
			b[i] += 101
		}
	}
	for i := range images {
		images[i] = []byte{77}
	}
	for _, l := range [][]api.Chunk{w.Net, w.D.Got} {
		for i := range l {
			l[i] = api.Chunk{N: 77}
		}
	}
	for i := range w.D.Job.Ops {
		w.D.Job.Ops[i] = api.Op{At: 77}
	}
}

// with returns w after a change, which w itself does not see.
func with(w api.World, change func(*api.World)) api.World {
	w = own(w)
	change(&w)
	return w
}

// upTo returns n bytes, no two of which are alike if n is small.
func upTo(n, start, step int) []byte {
	b := make([]byte, n)
	for i := range b {
		b[i] = byte(start + i*step)
	}
	return b
}

// releases are images of 20, 27, no and 64 bytes, and one that differs from the first one in the middle.
func releases() [][]byte {
	return [][]byte{[]byte("the old image, v. 1."), []byte("A new image: ver. 2 is here"), nil, upTo(64, 7, 3), []byte("the old IMAGE, v. 1.")}
}

// newWorld returns the world that New of package world returns.
func newWorld(l [][]byte) api.World {
	w, e := world.New(l)
	if e != api.OK {
		panic("no world")
	}
	return w
}

func fresh() api.World { return newWorld(releases()) }

// of returns an event.
func of(kind, n int) api.Happening { return api.Happening{Kind: kind, N: n} }

// times returns the event so many times.
func times(n, kind int) []api.Happening { return slices.Repeat([]api.Happening{of(kind, 0)}, n) }

// after returns the world after some events, none of which may return an error.
func after(w api.World, l ...api.Happening) api.World {
	for _, x := range l {
		var e api.Errno
		if w, e = world.Do(w, x); e != api.OK {
			panic(fmt.Sprintf("event %v: %d", x, e))
		}
	}
	return w
}

// sending returns the events with which a release is sent to a device that has received none of it yet, and installed there, up to HFinish.
func sending(w api.World, n int) []api.Happening {
	there, size := len(w.Net), len(w.R[n-1])
	sent := len(after(w, of(api.HSend, n)).Net) - there
	l := append([]api.Happening{of(api.HSend, n)}, slices.Repeat([]api.Happening{of(api.HHear, there)}, sent)...)
	return slices.Concat(l, []api.Happening{of(api.HOpen, 0)}, times((size+7)/8, api.HWrite), []api.Happening{of(api.HFinish, 0)})
}

// restart are the events of a power failure and a start.
func restart() []api.Happening { return []api.Happening{of(api.HCrash, 0), of(api.HBoot, 0)} }

// updating returns the events with which a release is sent, installed, started and confirmed.
func updating(w api.World, n int) []api.Happening {
	return slices.Concat(sending(w, n), restart(), []api.Happening{of(api.HConfirm, 0)})
}

// fine returns worlds in all states that come one after the other as some versions are installed, and all of them after a power failure.
func fine() []api.World {
	w := fresh()
	l := []api.World{w}
	add := func(events ...api.Happening) {
		for _, x := range events {
			w = after(w, x)
			l = append(l, w)
			if w.D.Up {
				l = append(l, after(w, of(api.HCrash, 0)))
			}
		}
	}
	for _, n := range []int{2, 4, 4} {
		add(updating(w, n)...)
	}
	add(sending(w, 5)...)
	for range 5 {
		add(restart()...)
	}
	return l
}

// form is what the device of a world is like.
type form struct {
	active   int
	trying   bool
	tries    int
	running  int // -1: it is not Up
	floor    int
	versions [2]int
	images   [2][]byte
	copies   int // 0 and 1: the other one is torn; 2 and 3: the other one is older
}

// next returns the version that would run after a restart.
func (f form) next() int {
	if f.trying && f.tries > 0 {
		return f.versions[1-f.active]
	}
	return f.versions[f.active]
}

// slot returns the bytes of a slot that holds an image, and more behind it.
func slot(b []byte) []byte { return append(bytes.Clone(b), upTo(64-len(b), 200, -1)...) }

// formed returns a world with such a device.
func formed(f form) api.World {
	r := api.Record{Gen: 7, Active: f.active, Trying: f.trying, Tries: f.tries, Floor: f.floor}
	old := api.Record{Gen: 6, Active: 1 - f.active, Floor: 1, In: [2]api.Info{{Version: 28, Size: 5}, {Version: 29, Size: 6}}}
	for k, b := range f.images {
		if f.versions[k] != 0 {
			r.In[k] = api.Info{Version: f.versions[k], Size: len(b), Sum: sum.Of(b)}
		}
	}
	w := api.World{R: releases()}
	w.D.Slots = [2][]byte{slot(f.images[0]), slot(f.images[1])}
	if f.running >= 0 {
		w.D.Up, w.D.Running = true, f.running
	}
	w.D.Copies[f.copies%2] = api.Copy{OK: true, R: r}
	if f.copies >= 2 {
		w.D.Copies[1-f.copies%2] = api.Copy{OK: true, R: old}
	}
	return w
}

// forms returns devices of all kinds that are not Busy, in which each slot holds something.
func forms(images [2][]byte, versions [2]int, floor int) []form {
	var l []form
	for active := range 2 {
		for copies := range 4 {
			f := form{active: active, floor: floor, versions: versions, images: images, copies: copies}
			for _, f.running = range []int{-1, active} {
				f.trying, f.tries = false, 0
				l = append(l, f)
			}
			f.trying = true
			for f.tries = range 4 {
				for _, f.running = range []int{-1, 0, 1} {
					l = append(l, f)
				}
			}
		}
	}
	return l
}

// slowRuns goes through section 'Runs' line by line.
func slowRuns(w api.World) (int, []byte, api.Errno) {
	if e := world.Check(w); e != api.OK {
		return 0, nil, e
	}
	if !w.D.Up {
		return 0, nil, api.ErrLate
	}
	r, _, _ := record.Read(w.D.Copies)
	var b []byte
	for i := range r.In[w.D.Running].Size {
		b = append(b, w.D.Slots[w.D.Running][i])
	}
	return r.In[w.D.Running].Version, b, api.OK
}

// slowNext lets the power fail, and looks what runs after the start.
func slowNext(w api.World) (int, api.Errno) {
	if w.D.Up {
		v, e := world.Do(w, of(api.HCrash, 0))
		if e != api.OK {
			return 0, e
		}
		w = v
	}
	w, e := world.Do(w, of(api.HBoot, 0))
	if e != api.OK {
		return 0, e
	}
	version, _, e := slowRuns(w)
	return version, e
}

// checkRuns says whether Runs returns this version, image and error; what does not go with an error must be zero.
func checkRuns(t *testing.T, w api.World, version int, image []byte, want api.Errno) {
	t.Helper()
	v, b, e := Runs(w)
	if v != version || !bytes.Equal(b, image) || e != want {
		t.Errorf("Runs of %v\n= %d, %v, %d\nwant %d, %v, %d", w, v, b, e, version, image, want)
	}
}

// checkNext says whether Next returns this version and error.
func checkNext(t *testing.T, w api.World, version int, want api.Errno) {
	t.Helper()
	if v, e := Next(w); v != version || e != want {
		t.Errorf("Next of %v\n= %d, %d, want %d, %d", w, v, e, version, want)
	}
}

// checkStory says whether a release runs (0: none, as the device is not Up), and whether that one is next.
func checkStory(t *testing.T, w api.World, runs, next int) {
	t.Helper()
	if runs == 0 {
		checkRuns(t, w, 0, nil, api.ErrLate)
	} else {
		checkRuns(t, w, runs, w.R[runs-1], api.OK)
	}
	checkNext(t, w, next, api.OK)
}

// checkForm says whether what the device runs, and would run, is what the form says.
func checkForm(t *testing.T, f form) {
	t.Helper()
	w := formed(f)
	if e := world.Check(w); e != api.OK {
		t.Fatalf("%v is not valid: %d", w, e)
	}
	if f.running < 0 {
		checkRuns(t, w, 0, nil, api.ErrLate)
	} else {
		checkRuns(t, w, f.versions[f.running], f.images[f.running], api.OK)
	}
	checkNext(t, w, f.next(), api.OK)
}

// checkSlow says whether both functions return what the slow ones do.
func checkSlow(t *testing.T, w api.World) {
	t.Helper()
	v, b, e := slowRuns(w)
	checkRuns(t, w, v, b, e)
	v, e = slowNext(w)
	checkNext(t, w, v, e)
}

// checkRefused says whether both functions return this error for a world.
func checkRefused(t *testing.T, w api.World, want api.Errno) {
	t.Helper()
	checkRuns(t, w, 0, nil, want)
	checkNext(t, w, 0, want)
}
