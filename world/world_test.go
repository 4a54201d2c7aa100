package world

import (
	"bytes"
	"fmt"
	"math"
	"slices"
	"testing"

	"cobbler/api"
	"cobbler/chunk"
	"cobbler/device"
	"cobbler/patch"
	"cobbler/sum"
)

func TestSendExample(t *testing.T) { // P11.2: the example of the chapter
	w, e := New(releases())
	if e != api.OK {
		t.Fatalf("New: %d", e)
	}
	w = done(t, w, of(api.HSend, 1))
	p, e := chunk.Join(w.Net)
	if e != api.OK || !patch.Same(p, made(1, 1)) || p.From != 1 || p.To != 1 {
		t.Errorf("sent: %v, %d", p, e)
	}
	check(t, fresh(), of(api.HSend, 1), api.World{R: releases(), D: fresh().D, Net: pieces(1, 1)}, api.OK)
}

func TestSend(t *testing.T) { // P11.2: to the version of the Active slot, above and below it; behind what is there
	for active := 1; active <= 4; active++ {
		for _, d := range devices(active) {
			w := api.World{R: releases(), D: d, Net: mixed()}
			r := reading(w)
			from := r.In[r.Active].Version
			for n := 1; n <= 5; n++ {
				want := with(w, func(w *api.World) { w.Net = append(w.Net, pieces(from, n)...) })
				check(t, w, of(api.HSend, n), want, api.OK)
			}
		}
	}
}

func TestSendFromActive(t *testing.T) { // P11.2: not from the version that is tried, and whether the device is up or not
	tried := step(told(fresh().D, pieces(1, 2)...), device.Open)
	for tried.Done < tried.Job.Size {
		tried = step(tried, write)
	}
	tried = step(step(step(tried, finish), device.Crash), device.Boot)
	w := api.World{R: releases(), D: tried}
	checkRuns(t, w, 2, false)
	check(t, w, of(api.HSend, 4), with(w, func(w *api.World) { w.Net = pieces(1, 4) }), api.OK)
	w = done(t, w, of(api.HConfirm, 0))
	check(t, w, of(api.HSend, 4), with(w, func(w *api.World) { w.Net = pieces(2, 4) }), api.OK)
	check(t, w, of(api.HSend, 1), with(w, func(w *api.World) { w.Net = pieces(2, 1) }), api.OK) // below Floor
	w = done(t, w, of(api.HCrash, 0))
	check(t, w, of(api.HSend, 4), with(w, func(w *api.World) { w.Net = pieces(2, 4) }), api.OK)
}

func TestSendFromRelease(t *testing.T) { // P11.2: the server knows the releases, not what is in the slots
	w := api.World{R: releases(), D: newDevice([]byte("something else"))}
	w = done(t, w, of(api.HSend, 2))
	p, e := chunk.Join(w.Net)
	if e != api.OK || p.Old != sum.Of(w.R[0]) || !patch.Same(p, made(1, 2)) {
		t.Errorf("sent: %v, %d", p, e)
	}
	for range pieces(1, 2) {
		w = done(t, w, of(api.HHear, 0))
	}
	checkError(t, w, of(api.HOpen, 0), api.ErrSum)
}

func TestSendToNoRelease(t *testing.T) { // P11.2: N at its bounds
	for n := 1; n <= 30; n++ {
		w := api.World{R: make([][]byte, n), D: newDevice(nil)}
		for k := -2; k <= 33; k++ {
			if k < 1 || k > n {
				checkError(t, w, of(api.HSend, k), api.ErrWho)
				continue
			}
			after := done(t, w, of(api.HSend, k))
			if len(after.Net) != 1 || after.Net[0].From != 1 || after.Net[0].To != k {
				t.Errorf("of %d releases, release %d is sent as %v", n, k, after.Net)
			}
		}
	}
	full := with(fresh(), func(w *api.World) { w.Net = filled(120) })
	for _, x := range append(extremes(), 0, 6, 30, 31) {
		checkError(t, fresh(), of(api.HSend, x), api.ErrWho)
		checkError(t, full, of(api.HSend, x), api.ErrWho) // before ErrMany
	}
}

func TestSendFromNoRelease(t *testing.T) { // P11.2: the version of the Active slot at its bound
	for n := 1; n <= 30; n++ {
		for version := 1; version <= 30; version++ {
			w := api.World{R: make([][]byte, n), D: newer(version)}
			full := with(w, func(w *api.World) { w.Net = filled(120) })
			for _, k := range []int{1, version, n} {
				if version > n {
					checkError(t, w, of(api.HSend, k), api.ErrWho)
					checkError(t, full, of(api.HSend, k), api.ErrWho) // before ErrMany
					continue
				}
				after := done(t, w, of(api.HSend, k))
				if len(after.Net) != 1 || after.Net[0].From != version || after.Net[0].To != k {
					t.Errorf("of %d releases, release %d is sent from %d as %v", n, k, version, after.Net)
				}
				checkError(t, full, of(api.HSend, k), api.ErrMany)
			}
		}
	}
}

func TestSendNeedsRoom(t *testing.T) { // P11.2: just enough room, and one chunk too little
	sizes := map[int]bool{}
	for to := 1; to <= 5; to++ {
		l := pieces(1, to)
		sizes[len(l)] = true
		for n := range 121 {
			w := with(fresh(), func(w *api.World) { w.Net = filled(n) })
			if n+len(l) > 120 {
				checkError(t, w, of(api.HSend, to), api.ErrMany)
				continue
			}
			check(t, w, of(api.HSend, to), with(w, func(w *api.World) { w.Net = append(w.Net, l...) }), api.OK)
		}
	}
	if !sizes[1] || !sizes[3] || !sizes[5] {
		t.Errorf("patches of %v chunks", sizes)
	}
}

func TestReceive(t *testing.T) { // P11.2: each chunk is received, received without being removed, and lost
	for _, net := range [][]api.Chunk{pieces(1, 2), pieces(1, 1), mixed(), filled(120), slices.Repeat(pieces(1, 2)[1:2], 3)} {
		for _, d := range []api.Device{fresh().D, told(fresh().D, pieces(1, 2)[2]), told(fresh().D, pieces(1, 4)...)} {
			w := api.World{R: releases(), D: d, Net: net}
			for n := range net {
				left := slices.Concat(net[:n], net[n+1:])
				heard := told(d, net[n])
				check(t, w, of(api.HHear, n), api.World{R: releases(), D: heard, Net: left}, api.OK)
				check(t, w, of(api.HTwice, n), api.World{R: releases(), D: heard, Net: net}, api.OK)
				check(t, w, of(api.HLose, n), api.World{R: releases(), D: d, Net: left}, api.OK)
			}
		}
	}
}

func TestReceiveNothing(t *testing.T) { // P11.2: N at its bounds, and no chunk at all; before the error of device.Hear
	busy := step(told(fresh().D, pieces(1, 2)...), device.Open)
	for _, net := range [][]api.Chunk{nil, pieces(1, 1), pieces(1, 2), filled(120)} {
		for _, d := range []api.Device{fresh().D, busy, step(fresh().D, device.Crash)} {
			w := api.World{R: releases(), D: d, Net: net}
			for _, kind := range []int{api.HHear, api.HTwice, api.HLose} {
				for _, x := range append(extremes(), len(net), len(net)+1, 120, 121) {
					checkError(t, w, of(kind, x), api.ErrWho)
				}
			}
			if n := len(net); n > 0 {
				done(t, w, of(api.HLose, 0))
				done(t, w, of(api.HLose, n-1))
				checkError(t, done(t, w, of(api.HLose, 0)), of(api.HLose, n-1), api.ErrWho) // one fewer is there now
			}
		}
	}
}

func TestHearErrors(t *testing.T) { // P11.2: an error of device.Hear; what is not heard can be lost
	busy := step(told(fresh().D, pieces(1, 2)...), device.Open)
	for _, d := range []api.Device{busy, step(busy, write), step(fresh().D, device.Crash), step(busy, device.Crash)} {
		w := api.World{R: releases(), D: d, Net: mixed()}
		for n, c := range mixed() {
			_, want := device.Hear(d, c)
			if want != api.ErrLate {
				t.Errorf("Hear: %d", want)
			}
			checkError(t, w, of(api.HHear, n), api.ErrLate)
			checkError(t, w, of(api.HTwice, n), api.ErrLate)
			check(t, w, of(api.HLose, n), api.World{R: releases(), D: d, Net: slices.Delete(mixed(), n, n+1)}, api.OK)
		}
	}
}

func TestDeviceEvents(t *testing.T) { // P11.2: the function of the device with the same name, with its error; N does not count
	functions := map[int]func(api.Device) (api.Device, api.Errno){
		api.HOpen:    device.Open,
		api.HWrite:   write,
		api.HFinish:  finish,
		api.HConfirm: device.Confirm,
		api.HCrash:   device.Crash,
		api.HBoot:    device.Boot,
		api.HTearRec: func(d api.Device) (api.Device, api.Errno) { return device.Finish(d, true) },
	}
	good := map[int]int{}
	for _, w := range fine() {
		for kind, f := range functions {
			for _, n := range append(extremes(), 0, 1, 8) {
				d, e := f(w.D)
				if e != api.OK {
					checkError(t, w, of(kind, n), e)
					continue
				}
				good[kind]++
				check(t, w, of(kind, n), api.World{R: w.R, D: d, Net: w.Net}, api.OK)
			}
		}
	}
	for kind := range functions {
		if good[kind] < 17 {
			t.Errorf("only %d events of kind %d succeed", good[kind], kind)
		}
	}
}

func TestDeviceErrors(t *testing.T) { // P11.2: the errors themselves
	ready := told(fresh().D, pieces(1, 2)...)
	busy := step(ready, device.Open)
	ended := busy
	for ended.Done < ended.Job.Size {
		ended = step(ended, write)
	}
	last := ownDevice(ready)
	last.Copies[0].R.Gen = 1000000
	for _, c := range []struct {
		d    api.Device
		kind int
		want api.Errno
	}{
		{fresh().D, api.HOpen, api.ErrLate},
		{busy, api.HOpen, api.ErrLate},
		{told(fresh().D, pieces(2, 4)...), api.HOpen, api.ErrWho},
		{told(newDevice(nil), pieces(1, 2)...), api.HOpen, api.ErrSum},
		{told(fresh().D, api.Chunk{From: 1, To: 2, N: 0, Of: 1, Data: []byte{0}}), api.HOpen, api.ErrForm},
		{told(fresh().D, api.Chunk{From: 1, To: 2, N: 0, Of: 1, Data: []byte{1}}), api.HOpen, api.ErrTorn},
		{last, api.HOpen, api.ErrRange},
		{fresh().D, api.HWrite, api.ErrLate},
		{fresh().D, api.HTear, api.ErrLate},
		{ended, api.HWrite, api.ErrLate},
		{ended, api.HTear, api.ErrLate},
		{busy, api.HFinish, api.ErrLate},
		{busy, api.HTearRec, api.ErrLate},
		{fresh().D, api.HConfirm, api.ErrLate},
		{fresh().D, api.HBoot, api.ErrLate},
		{step(fresh().D, device.Crash), api.HCrash, api.ErrLate},
	} {
		checkError(t, api.World{R: releases(), D: c.d, Net: mixed()}, of(c.kind, 0), c.want)
	}
}

func TestTear(t *testing.T) { // P11.2: a torn Write, with an N below nought, larger than a sector, and all in between
	busy := step(told(fresh().D, pieces(1, 2)...), device.Open)
	for _, d := range []api.Device{busy, step(busy, write), step(step(step(busy, write), write), write)} {
		w := api.World{R: releases(), D: d, Net: mixed()}
		for n := -9; n <= 20; n++ {
			kept := min(max(n, 0), 8)
			next := append(bytes.Clone(w.R[1]), 0, 0, 0, 0, 0)[d.Done : d.Done+8]
			after := api.Device{Slots: [2][]byte{d.Slots[0], bytes.Clone(d.Slots[1])}, Copies: d.Copies}
			copy(after.Slots[1][d.Done:], next[:kept])
			check(t, w, of(api.HTear, n), api.World{R: w.R, D: after, Net: w.Net}, api.OK)
		}
		for _, n := range extremes() {
			kept := 8
			if n < 0 {
				kept = 0
			}
			check(t, w, of(api.HTear, n), done(t, w, of(api.HTear, kept)), api.OK)
		}
	}
}

func TestTearRec(t *testing.T) { // P11.2: a torn Finish, after which the device is as it was before the installation
	for to := 1; to <= 5; to++ {
		w := done(t, with(fresh(), func(w *api.World) { w.D = told(w.D, pieces(1, to)...) }), of(api.HOpen, 0))
		for range (len(w.R[to-1]) + 7) / 8 {
			w = done(t, w, of(api.HWrite, 0))
		}
		torn := done(t, w, of(api.HTearRec, 0))
		if torn.D.Up || torn.D.Copies[0] != (api.Copy{}) || torn.D.Copies[1] != w.D.Copies[1] {
			t.Errorf("after a torn Finish: %v", torn)
		}
		checkRuns(t, done(t, torn, of(api.HBoot, 0)), 1, true)
		checkRuns(t, done(t, w, of(api.HFinish, 0), of(api.HCrash, 0), of(api.HBoot, 0)), to, false)
	}
}

func TestUnknownKind(t *testing.T) { // P11.2: one below the least, one above the largest, and others
	for _, w := range fine() {
		for _, kind := range append(extremes(), 0, 13, 14, 256, 257, 1<<32+12) {
			for _, n := range []int{0, 1, -1, math.MaxInt} {
				checkError(t, w, of(kind, n), api.ErrForm)
			}
		}
	}
}

func TestEachKind(t *testing.T) { // P11.2: all kinds in all worlds do what the slow Do does
	counts := map[string]int{}
	for _, w := range fine() {
		for _, x := range all() {
			want, e := slowDo(w, x)
			check(t, w, x, want, e)
			counts[fmt.Sprint(x.Kind, " ", e)]++
			if e == api.OK {
				after, _ := Do(w, x)
				checkAccepted(t, after)
			}
		}
	}
	for kind := api.HSend; kind <= api.HTearRec; kind++ {
		if counts[fmt.Sprint(kind, " ", api.OK)] == 0 {
			t.Errorf("no event of kind %d succeeds", kind)
		}
	}
}
