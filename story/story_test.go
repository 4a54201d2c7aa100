package story

import (
	"bytes"
	"fmt"
	"slices"
	"testing"

	"cobbler/api"
	"cobbler/chunk"
	"cobbler/device"
	"cobbler/record"
	"cobbler/world"
)

func TestExample(t *testing.T) { // P12.1: in a new world Runs returns 1 and the first release
	w, e := world.New([][]byte{[]byte("abcdefgh"), []byte("xefghabcd")})
	if e != api.OK {
		t.Fatalf("New: %d", e)
	}
	checkRuns(t, w, 1, []byte("abcdefgh"), api.OK)
	checkNext(t, w, 1, api.OK)
}

func TestNewWorlds(t *testing.T) { // P12.1: a first release of each size, among any number of them
	for n := 1; n <= 30; n++ {
		for size := range 65 {
			l := slices.Repeat([][]byte{upTo(40, 9, 9)}, n)
			l[0] = upTo(size, n, 3)
			w := newWorld(l)
			checkRuns(t, w, 1, upTo(size, n, 3), api.OK)
			checkNext(t, w, 1, api.OK)
			checkStory(t, after(w, of(api.HCrash, 0)), 0, 1)
		}
	}
}

func TestForms(t *testing.T) { // P12.1: each slot runs or not, is Active or tried; each copy of the record is the valid one
	images := [][]byte{nil, {0}, upTo(20, 5, 1), upTo(63, 6, 1), upTo(64, 7, 1)}
	for _, first := range images {
		for _, second := range images {
			for _, c := range [][3]int{{4, 5, 4}, {5, 4, 4}, {1, 1, 1}, {1, 30, 1}, {30, 1, 1}, {30, 30, 30}, {17, 13, 2}} { // two versions, and Floor
				for _, f := range forms([2][]byte{first, second}, [2]int{c[0], c[1]}, c[2]) {
					checkForm(t, f)
				}
			}
		}
	}
}

func TestOtherSlotBelowFloor(t *testing.T) { // P12.1: the other slot, while it is not tried, may be empty or below Floor
	for _, running := range []int{-1, 1} {
		checkForm(t, form{active: 1, running: running, floor: 9, versions: [2]int{3, 9}, images: [2][]byte{upTo(8, 1, 1), upTo(9, 2, 2)}})
		checkForm(t, form{active: 1, running: running, floor: 9, versions: [2]int{0, 12}, images: [2][]byte{nil, upTo(9, 2, 2)}})
	}
}

func TestSlotAndNotRelease(t *testing.T) { // P12.1: the image is that of the slot, be it a release or not
	for version := 1; version <= 30; version++ {
		for _, f := range forms([2][]byte{[]byte("something else"), []byte("and more")}, [2]int{version, 31 - version}, 1) {
			f.images[f.active] = nil
			checkForm(t, f)
		}
	}
	w := with(fresh(), func(w *api.World) { w.D.Slots[0][0]++ }) // it is not compared with its sum
	checkRuns(t, w, 1, append([]byte{'t' + 1}, releases()[0][1:]...), api.OK)
	w = with(fresh(), func(w *api.World) { w.R = [][]byte{upTo(64, 1, 1)} })
	checkRuns(t, w, 1, releases()[0], api.OK)
	checkNext(t, w, 1, api.OK)
}

func TestBusy(t *testing.T) { // P12.1: while a patch is installed, and with chunks that came meanwhile
	w := fresh()
	l := sending(w, 4)
	for _, x := range l[:len(l)-1] {
		w = after(w, x)
		checkStory(t, w, 1, 1)
	}
	if !w.D.Busy {
		t.Fatalf("not Busy: %v", w)
	}
	w.D.Got = []api.Chunk{{From: 7, To: 8, N: 1, Of: 2, Data: []byte{1}}}
	checkStory(t, w, 1, 1)
}

func TestTries(t *testing.T) { // P12.1: before the first start of a version, between its tries, after the last one
	for to := 2; to <= 5; to++ {
		w := after(fresh(), sending(fresh(), to)...)
		checkStory(t, w, 1, to)
		for try := 1; try <= 3; try++ {
			w = after(w, of(api.HCrash, 0))
			checkStory(t, w, 0, to)
			w = after(w, of(api.HBoot, 0))
			next := to
			if try == 3 {
				next = 1
			}
			checkStory(t, w, to, next)
			confirmed := after(w, of(api.HConfirm, 0))
			checkStory(t, confirmed, to, to)
			checkStory(t, after(confirmed, of(api.HCrash, 0)), 0, to)
			checkStory(t, after(confirmed, restart()...), to, to)
		}
		for range 3 {
			w = after(w, of(api.HCrash, 0))
			checkStory(t, w, 0, 1)
			w = after(w, of(api.HBoot, 0))
			checkStory(t, w, 1, 1)
		}
	}
}

func TestBothSlots(t *testing.T) { // P12.1: versions that are confirmed one after the other run from one slot and from the other one
	w, from := fresh(), 1
	for k, n := range []int{2, 3, 4, 5, 5} {
		w = after(w, sending(w, n)...)
		checkStory(t, w, from, n)
		w = after(w, restart()...)
		checkStory(t, w, n, n)
		w = after(w, of(api.HConfirm, 0))
		checkStory(t, w, n, n)
		if w.D.Running != (k+1)%2 {
			t.Errorf("version %d runs from slot %d", n, w.D.Running)
		}
		checkStory(t, after(w, of(api.HCrash, 0)), 0, n)
		from = n
	}
}

// aged returns a world whose record has this Gen, and whose other copy is torn.
func aged(w api.World, gen int) api.World {
	r, at, _ := record.Read(w.D.Copies)
	r.Gen = gen
	w.D.Copies[at], w.D.Copies[1-at] = api.Copy{OK: true, R: r}, api.Copy{}
	return w
}

func TestNextErrors(t *testing.T) { // P12.1: a restart that fails with the error of device.Boot; Runs does not ask for it
	images := [2][]byte{upTo(20, 1, 1), upTo(64, 2, 3)}
	for _, f := range forms(images, [2]int{8, 9}, 8) {
		checkNext(t, aged(formed(f), 999999), f.next(), api.OK)
		w := aged(formed(f), 1000000)
		if f.trying { // only then device.Boot writes the record
			checkNext(t, w, 0, api.ErrRange)
		} else {
			checkNext(t, w, f.next(), api.OK)
		}
		if f.running < 0 {
			checkRuns(t, w, 0, nil, api.ErrLate)
		} else {
			checkRuns(t, w, f.versions[f.running], f.images[f.running], api.OK)
		}
		checkSlow(t, w)
	}
}

func TestLastGeneration(t *testing.T) { // P12.1: device.Boot fails in a world that is reached from New too, once the generations of the record are used up
	w := after(newWorld([][]byte{nil}), of(api.HSend, 1))
	again := slices.Concat([]api.Happening{of(api.HTwice, 0), of(api.HOpen, 0), of(api.HFinish, 0)}, restart(), restart(), restart(), restart())
	for range 1000000 / 6 { // so often the record is written each time
		w = after(w, again...)
	}
	checkStory(t, w, 1, 1)
	w = after(w, of(api.HTwice, 0), of(api.HOpen, 0), of(api.HFinish, 0))
	checkStory(t, w, 1, 1)
	w = after(w, of(api.HCrash, 0), of(api.HBoot, 0))
	checkRuns(t, w, 1, nil, api.OK)
	checkNext(t, w, 0, api.ErrRange)
	w = after(w, of(api.HCrash, 0))
	checkRuns(t, w, 0, nil, api.ErrLate)
	checkNext(t, w, 0, api.ErrRange)
}

func TestSameAsSlow(t *testing.T) { // P12.1: in all states of some updates
	for _, w := range fine() {
		checkSlow(t, w)
	}
}

// flaw is a reason of world.Check to refuse a world; of two, the one with the lower place comes first.
type flaw struct {
	place  int
	want   api.Errno
	change func(*api.World)
}

// flaws returns all reasons but those of an installation.
func flaws() []flaw {
	return []flaw{
		{1, api.ErrMany, func(w *api.World) { w.R = nil }},
		{1, api.ErrMany, func(w *api.World) { w.R = make([][]byte, 31) }},
		{1, api.ErrMany, func(w *api.World) { w.R = append(w.R, make([]byte, 65)) }},
		{2, api.ErrForm, func(w *api.World) { w.D.Slots[0] = w.D.Slots[0][:63] }},
		{2, api.ErrForm, func(w *api.World) { w.D.Slots[1] = append(w.D.Slots[1], 0) }},
		{3, api.ErrForm, func(w *api.World) { w.D.Copies[0] = api.Copy{R: api.Record{Gen: 1}} }},
		{3, api.ErrRange, func(w *api.World) { w.D.Copies[0] = api.Copy{OK: true, R: api.Record{Active: 2}} }},
		{3, api.ErrTorn, func(w *api.World) { w.D.Copies = [2]api.Copy{} }},
		{4, api.ErrForm, func(w *api.World) { w.D.Up, w.D.Done = false, 8 }},
		{4, api.ErrRange, func(w *api.World) { w.D.Up, w.D.Running = true, 2 }},
		{5, api.ErrRange, func(w *api.World) { w.D.Up, w.D.Got = true, []api.Chunk{{}} }},
		{6, api.ErrForm, func(w *api.World) { w.D.Up, w.D.Done = true, 8 }},
		{7, api.ErrMany, func(w *api.World) { w.Net = append(w.Net, slices.Repeat(goodNet(), 121)...) }},
		{8, api.ErrRange, func(w *api.World) { w.Net = append(w.Net, api.Chunk{}) }},
		{8, api.ErrForm, func(w *api.World) { w.Net = append(w.Net, api.Chunk{From: 1, To: 2, N: 0, Of: 1}) }},
	}
}

// goodNet is a network of one chunk.
func goodNet() []api.Chunk { return []api.Chunk{{From: 1, To: 2, N: 0, Of: 1, Data: []byte{1}}} }

func TestRefused(t *testing.T) { // P12.1: a world that Check refuses, for each of its reasons; before the ErrLate of Runs
	for i, bad := range flaws() {
		for _, w := range []api.World{fresh(), after(fresh(), of(api.HCrash, 0)), after(fresh(), of(api.HSend, 4))} {
			w = with(w, bad.change)
			if e := world.Check(w); e != bad.want {
				t.Errorf("flaw %d leads to %d, want %d", i, e, bad.want)
			}
			checkRefused(t, w, bad.want)
		}
	}
}

func TestRefusedOrder(t *testing.T) { // P12.1: two reasons at once; the one that Check names first counts
	for _, first := range flaws() {
		for _, second := range flaws() {
			if first.place < second.place {
				checkRefused(t, with(with(fresh(), second.change), first.change), first.want)
			}
		}
	}
}

func TestRefusedBeforeBoot(t *testing.T) { // P12.1: the error of Check comes before that of device.Boot
	for _, running := range []int{-1, 0, 1} {
		f := form{trying: true, tries: 2, running: running, floor: 1, versions: [2]int{1, 2}}
		w := aged(formed(f), 1000000)
		checkNext(t, w, 0, api.ErrRange)
		checkRefused(t, with(w, func(w *api.World) { w.R = nil }), api.ErrMany)
		checkRefused(t, with(w, func(w *api.World) { w.Net = slices.Repeat(goodNet(), 121) }), api.ErrMany)
		checkRefused(t, with(w, func(w *api.World) { w.Net = []api.Chunk{{From: 1, To: 2, N: 0, Of: 1}} }), api.ErrForm)
		checkRefused(t, with(w, func(w *api.World) { w.D.Slots[1] = nil }), api.ErrForm)
		checkRefused(t, with(w, func(w *api.World) { w.D.Copies[0].R.Gen++ }), api.ErrRange)
	}
}

func TestRefusedWhileBusy(t *testing.T) { // P12.1: the errors of an installation
	l := sending(fresh(), 2)
	w := after(fresh(), l[:len(l)-2]...)
	checkStory(t, w, 1, 1)
	for _, c := range []struct {
		want   api.Errno
		change func(*api.World)
	}{
		{api.ErrForm, func(w *api.World) { w.D.Job.From = 2 }},
		{api.ErrForm, func(w *api.World) { w.D.Slots[1][0]++ }},
		{api.ErrForm, func(w *api.World) { w.D.Busy = false }},
		{api.ErrForm, func(w *api.World) { w.D.Up = false }},
		{api.ErrSum, func(w *api.World) { w.D.Slots[0][0]++ }},
		{api.ErrSum, func(w *api.World) { w.D.Job.New++ }},
		{api.ErrMany, func(w *api.World) { w.D.Job.Size = 65 }},
		{api.ErrMany, func(w *api.World) { w.D.Job.Ops = make([]api.Op, 41) }},
		{api.ErrRange, func(w *api.World) { w.D.Job.Old = 65536 }},
		{api.ErrRange, func(w *api.World) { w.D.Done++ }},
	} {
		checkRefused(t, with(w, c.change), c.want)
	}
}

func TestZero(t *testing.T) { // P1: nil and zero
	checkRefused(t, api.World{}, api.ErrMany)
	checkRefused(t, api.World{R: [][]byte{}, Net: []api.Chunk{}}, api.ErrMany)
	checkRefused(t, api.World{D: fresh().D}, api.ErrMany)
	checkRefused(t, api.World{R: releases()}, api.ErrForm)
	checkRefused(t, api.World{R: releases(), D: api.Device{Up: true, Busy: true}}, api.ErrForm)
	empty := with(fresh(), func(w *api.World) {
		w.Net, w.D.Got, w.D.Job.Ops, w.R[2] = []api.Chunk{}, []api.Chunk{}, []api.Op{}, []byte{}
	})
	checkStory(t, empty, 1, 1)
	none := newWorld([][]byte{nil})
	checkStory(t, none, 1, 1)
}

func TestExtremes(t *testing.T) { // P1: values of every field as large and as small as an int can be
	l := sending(fresh(), 2)
	busy := after(fresh(), l[:len(l)-2]...)
	for _, x := range append(extremes(), 0, 1) {
		changes := []func(*api.World){
			func(w *api.World) { w.D.Running = x },
			func(w *api.World) { w.D.Done = x },
			func(w *api.World) { w.D.Job.From = x },
			func(w *api.World) { w.D.Job.To = x },
			func(w *api.World) { w.D.Job.Old = x },
			func(w *api.World) { w.D.Job.New = x },
			func(w *api.World) { w.D.Job.Size = x },
			func(w *api.World) { w.D.Job.Ops = []api.Op{{At: x, Len: x}} },
			func(w *api.World) { w.D.Got = []api.Chunk{{From: x, To: 2, N: 0, Of: 1, Data: []byte{1}}} },
			func(w *api.World) { w.D.Got = []api.Chunk{{From: 1, To: 2, N: x, Of: x, Data: []byte{1}}} },
			func(w *api.World) { w.Net = []api.Chunk{{From: 1, To: x, N: 0, Of: 1, Data: []byte{1}}} },
			func(w *api.World) { w.Net = []api.Chunk{{From: 1, To: 2, N: x, Of: x, Data: []byte{1}}} },
		}
		for k := range 2 {
			changes = append(changes,
				func(w *api.World) { w.D.Copies[k].R.Gen = x },
				func(w *api.World) { w.D.Copies[k].R.Active = x },
				func(w *api.World) { w.D.Copies[k].R.Tries = x },
				func(w *api.World) { w.D.Copies[k].R.Floor = x },
				func(w *api.World) { w.D.Copies[0].R.In[k].Version = x },
				func(w *api.World) { w.D.Copies[0].R.In[k].Size = x },
				func(w *api.World) { w.D.Copies[1].R.In[k].Sum = x },
			)
		}
		for _, w := range []api.World{fresh(), busy, after(fresh(), of(api.HCrash, 0)), after(fresh(), sending(fresh(), 2)...)} {
			for _, change := range changes {
				checkSlow(t, with(w, change))
			}
		}
	}
}

func TestAllExtreme(t *testing.T) { // P1: all fields at once
	for _, x := range append(extremes(), 0, 1) {
		info := api.Info{Version: x, Size: x, Sum: x}
		r := api.Record{Gen: x, Active: x, Trying: true, Tries: x, Floor: x, In: [2]api.Info{info, info}}
		c := api.Chunk{From: x, To: x, N: x, Of: x}
		p := api.Patch{From: x, To: x, Old: x, New: x, Size: x, Ops: []api.Op{{At: x, Len: x}}}
		d := api.Device{Copies: [2]api.Copy{{OK: true, R: r}, {OK: true, R: r}}, Up: true, Running: x, Got: []api.Chunk{c}, Busy: true, Job: p, Done: x}
		checkRefused(t, api.World{D: d, Net: []api.Chunk{c}}, api.ErrMany)
		checkRefused(t, api.World{R: releases(), D: d, Net: []api.Chunk{c}}, api.ErrForm)
		d.Slots = [2][]byte{make([]byte, 64), make([]byte, 64)}
		checkRefused(t, api.World{R: releases(), D: d, Net: []api.Chunk{c}}, device.Check(d))
		checkRefused(t, api.World{R: releases(), D: fresh().D, Net: []api.Chunk{c}}, chunk.Check(c))
	}
}

func TestArgumentsAreOnlyRead(t *testing.T) { // P2: neither lists nor their spare capacity
	l := fine()
	for _, bad := range flaws() {
		l = append(l, with(fresh(), bad.change))
	}
	for _, start := range l {
		w := own(start)
		was := text(whole(w))
		Runs(w)
		if text(whole(w)) != was {
			t.Fatalf("Runs has changed its argument: %s is %v", was, whole(w))
		}
		Next(w)
		if text(whole(w)) != was {
			t.Fatalf("Next has changed its argument: %s is %v", was, whole(w))
		}
	}
}

func TestResultsAreNew(t *testing.T) { // P2: neither the result nor the argument changes if the other one's memory does
	images := 0
	for _, start := range fine() {
		w := own(start)
		_, b, e := Runs(w)
		if e != api.OK {
			continue
		}
		was := bytes.Clone(b)
		scribble(w)
		if !bytes.Equal(b, was) {
			t.Errorf("the image was %v, and is %v", was, b)
		}
		w = own(start)
		everything := text(whole(w))
		_, b, _ = Runs(w)
		_, c, _ := Runs(w)
		b = b[:cap(b)]
		for i := range b {
			b[i] = ^b[i]
		}
		if text(whole(w)) != everything {
			t.Errorf("the argument was %s, and is %v", everything, whole(w))
		}
		if !bytes.Equal(c, was) {
			t.Errorf("the images of two calls share memory")
		}
		images += min(1, len(was))
	}
	if images < 20 {
		t.Errorf("only %d images", images)
	}
}

func TestSharedArguments(t *testing.T) { // P2: lists of an argument may share memory
	b := upTo(64, 1, 1)
	w := newWorld(slices.Repeat([][]byte{b}, 30))
	w.D.Slots, w.R = [2][]byte{b, b}, slices.Repeat([][]byte{b}, 30)
	w.Net = []api.Chunk{{From: 1, To: 2, N: 0, Of: 2, Data: b[:16]}}
	w.D.Got = w.Net
	checkStory(t, w, 1, 1)
	_, c, _ := Runs(w)
	b[0]++
	if !bytes.Equal(c, upTo(64, 1, 1)) {
		t.Errorf("the image is %v", c)
	}
}

func TestOnlyArgumentsCount(t *testing.T) { // P1: not what was called before
	l := fine()
	next := numbers(1)
	for _, w := range l {
		was := fmt.Sprint(all(w)...)
		all(l[next(len(l))])
		if got := fmt.Sprint(all(own(w))...); got != was {
			t.Fatalf("of %v: first %s, then %s", w, was, got)
		}
	}
}

// all returns all that the functions say of a world.
func all(w api.World) []any {
	v, b, e := Runs(w)
	n, wrong := Next(w)
	return []any{v, b, e, n, wrong}
}
