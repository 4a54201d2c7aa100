package world

import (
	"bytes"
	"math"
	"slices"
	"testing"

	"cobbler/api"
	"cobbler/device"
)

func TestNew(t *testing.T) { // P11.1: one release, api.MaxVersion, and all in between
	for n := 1; n <= 30; n++ {
		var l [][]byte
		for i := range n {
			l = append(l, upTo((i*7+n)%65, i, n))
		}
		w, e := New(l)
		if want := (api.World{R: l, D: newDevice(l[0])}); text(w) != text(want) || e != api.OK {
			t.Errorf("New of %d releases = %v, %d, want %v", n, w, e, want)
		}
		checkAccepted(t, w)
		checkRuns(t, w, 1, true)
	}
	w, e := New(releases())
	if text(w) != text(fresh()) || e != api.OK {
		t.Errorf("New: %v, %d", w, e)
	}
}

func TestNewSizes(t *testing.T) { // P11.1: a release of no bytes, of the largest size and of one more, at each place
	for _, n := range []int{1, 2, 15, 30} {
		for at := range n {
			for _, size := range []int{0, 1, 63, 64} {
				l := make([][]byte, n)
				l[at] = upTo(size, 1, 1)
				w, e := New(l)
				if want := (api.World{R: l, D: newDevice(l[0])}); text(w) != text(want) || e != api.OK {
					t.Errorf("New with %d bytes at %d of %d: %v, %d", size, at, n, w, e)
				}
			}
			for _, size := range []int{65, 66, 128, 256, 65600} {
				l := make([][]byte, n)
				l[at] = upTo(size, 1, 1)
				checkNewRefused(t, l)
			}
		}
	}
	checkNewRefused(t, slices.Repeat([][]byte{make([]byte, 65)}, 31)) // both errors
}

func TestNewCounts(t *testing.T) { // P11.1: no release, and one more than api.MaxVersion
	checkNewRefused(t, nil)
	checkNewRefused(t, [][]byte{})
	for _, n := range []int{31, 32, 60, 256, 257, 100000} {
		checkNewRefused(t, make([][]byte, n))
	}
}

// checkNewRefused says whether New and Check both refuse these releases.
func checkNewRefused(t *testing.T, l [][]byte) {
	t.Helper()
	if w, e := New(l); text(w) != text(api.World{}) || e != api.ErrMany {
		t.Errorf("New of %d releases = %v, %d", len(l), w, e)
	}
	checkRefused(t, api.World{R: l, D: newDevice(nil), Net: mixed()}, api.ErrMany)
}

func TestCheckAccepts(t *testing.T) { // P11.1
	for _, w := range fine() {
		checkAccepted(t, w)
		if e := slowCheck(w); e != api.OK {
			t.Errorf("the slow Check of %v is %d", w, e)
		}
	}
	empty := fresh()
	empty.Net, empty.D.Got, empty.R[2] = []api.Chunk{}, []api.Chunk{}, []byte{}
	checkAccepted(t, empty) // an empty list is as good as none
	for n := range 121 {
		checkAccepted(t, with(fresh(), func(w *api.World) { w.Net = filled(n) }))
	}
}

func TestCheckReleases(t *testing.T) { // P11.1: the error of New, before that of the device
	for _, w := range fine() {
		for _, l := range [][][]byte{nil, {}, make([][]byte, 31), {make([]byte, 65)}, append(releases(), make([]byte, 65)), {make([]byte, 65), nil}} {
			bad := with(w, func(w *api.World) { w.R = l })
			checkRefused(t, bad, api.ErrMany)
			checkRefused(t, with(bad, func(w *api.World) { w.D.Slots[0] = nil }), api.ErrMany)            // ErrForm
			checkRefused(t, with(bad, func(w *api.World) { w.D.Copies = [2]api.Copy{} }), api.ErrMany)    // ErrTorn
			checkRefused(t, with(bad, func(w *api.World) { w.D.Up, w.D.Running = true, 2 }), api.ErrMany) // ErrRange
			checkRefused(t, with(bad, func(w *api.World) { w.Net = []api.Chunk{{}} }), api.ErrMany)       // ErrRange
		}
	}
	checkRefused(t, api.World{}, api.ErrMany)
	checkRefused(t, api.World{D: fresh().D}, api.ErrMany)
}

// spoiled returns devices that are not valid, and their errors.
func spoiled() map[api.Errno][]api.Device {
	d := newDevice(releases()[0])
	busy := step(told(d, pieces(1, 2)...), device.Open)
	change := func(d api.Device, change func(*api.Device)) api.Device {
		d = ownDevice(d)
		change(&d)
		return d
	}
	return map[api.Errno][]api.Device{
		api.ErrMany: {
			change(busy, func(d *api.Device) { d.Job.Size = 65 }),
		},
		api.ErrRange: {
			change(d, func(d *api.Device) { d.Running = 1 }),
			change(d, func(d *api.Device) { d.Copies[0].R.Gen = 0 }),
			change(d, func(d *api.Device) { d.Copies[0].R.Active = math.MaxInt }),
			change(d, func(d *api.Device) { d.Got = []api.Chunk{{}} }),
			change(busy, func(d *api.Device) { d.Done = 3 }),
		},
		api.ErrForm: {
			{},
			change(d, func(d *api.Device) { d.Slots[1] = make([]byte, 63) }),
			change(d, func(d *api.Device) { d.Slots[0] = make([]byte, 65) }),
			change(d, func(d *api.Device) { d.Copies[0].OK = false }),
			change(d, func(d *api.Device) { d.Up, d.Running = false, 1 }),
			change(d, func(d *api.Device) { d.Done = 8 }),
			change(busy, func(d *api.Device) { d.Job.From = 2 }),
			change(busy, func(d *api.Device) { d.Done = 8 }),
		},
		api.ErrSum: {
			change(busy, func(d *api.Device) { d.Slots[0][0]++ }),
		},
		api.ErrTorn: {
			change(d, func(d *api.Device) { d.Copies = [2]api.Copy{} }),
		},
	}
}

func TestCheckDevice(t *testing.T) { // P11.1: the error of device.Check, before those of the network
	for want, l := range spoiled() {
		for _, d := range l {
			for _, net := range [][]api.Chunk{nil, mixed(), filled(121), slices.Repeat([]api.Chunk{{}}, 121)} {
				checkRefused(t, api.World{R: releases(), D: d, Net: net}, want)
			}
			for _, x := range []api.Chunk{{}, {From: 1, To: 2, N: 0, Of: 2, Data: []byte{1}}} { // ErrRange and ErrForm
				checkRefused(t, api.World{R: releases(), D: d, Net: []api.Chunk{x}}, want)
			}
		}
	}
}

func TestCheckDeviceFields(t *testing.T) { // P11.1, P1: every field of the device as large and as small as an int can be
	for _, x := range extremes() {
		for _, change := range []func(*api.World){
			func(w *api.World) { w.D.Running = x },
			func(w *api.World) { w.D.Copies[0].R.Gen = x },
			func(w *api.World) { w.D.Copies[0].R.Active = x },
			func(w *api.World) { w.D.Copies[0].R.Tries = x },
			func(w *api.World) { w.D.Copies[0].R.Floor = x },
			func(w *api.World) { w.D.Copies[0].R.In[0].Version = x },
			func(w *api.World) { w.D.Copies[0].R.In[1].Size = x },
			func(w *api.World) { w.D.Copies[0].R.In[0].Sum = x },
			func(w *api.World) { w.D.Got = []api.Chunk{{From: x, To: 2, N: 0, Of: 1, Data: []byte{1}}} },
			func(w *api.World) { w.D.Got = []api.Chunk{{From: 1, To: 2, N: x, Of: 1, Data: []byte{1}}} },
		} {
			checkRefused(t, with(fresh(), change), api.ErrRange)
		}
		checkRefused(t, with(fresh(), func(w *api.World) { w.D.Done = x }), api.ErrForm)
		checkRefused(t, with(fresh(), func(w *api.World) { w.D.Job.Size = x }), api.ErrForm)
		checkRefused(t, with(fresh(), func(w *api.World) { w.D.Job.Ops = []api.Op{{At: x, Len: x}} }), api.ErrForm)
	}
}

func TestCheckNet(t *testing.T) { // P11.1: one chunk more than api.MaxNet, before the errors of the chunks
	for _, w := range fine() {
		for _, n := range []int{121, 122, 240, 256} {
			checkRefused(t, with(w, func(w *api.World) { w.Net = filled(n) }), api.ErrMany)
		}
		for _, bad := range []api.Chunk{{}, {From: 1, To: 2, N: 0, Of: 2, Data: []byte{1}}} {
			checkRefused(t, with(w, func(w *api.World) { w.Net = append([]api.Chunk{bad}, filled(120)...) }), api.ErrMany)
			checkRefused(t, with(w, func(w *api.World) { w.Net = append(filled(120), bad) }), api.ErrMany)
		}
	}
	checkRefused(t, with(fresh(), func(w *api.World) { w.Net = make([]api.Chunk, 100000) }), api.ErrMany)
}

func TestCheckChunks(t *testing.T) { // P11.1: the first error of chunk.Check, at each place
	out := []api.Chunk{{}, {From: 31, To: 1, N: 0, Of: 1, Data: []byte{1}}, {From: 1, To: 2, N: 1, Of: 1, Data: []byte{1}}, {From: 1, To: 2, N: 0, Of: 53, Data: upTo(16, 1, 1)}}
	torn := []api.Chunk{{From: 1, To: 2, N: 0, Of: 1}, {From: 1, To: 2, N: 0, Of: 2, Data: upTo(15, 1, 1)}, {From: 1, To: 2, N: 1, Of: 2, Data: upTo(17, 1, 1)}}
	for _, x := range extremes() {
		for _, change := range []func(*api.Chunk){func(c *api.Chunk) { c.From = x }, func(c *api.Chunk) { c.To = x }, func(c *api.Chunk) { c.N = x }, func(c *api.Chunk) { c.Of = x }} {
			c := pieces(1, 2)[0]
			change(&c)
			out = append(out, c)
		}
	}
	for _, n := range []int{0, 1, 2, 60, 119} {
		for at := range n + 1 {
			checkOdd := func(c api.Chunk, want api.Errno) {
				net := slices.Insert(filled(n), at, c)
				checkRefused(t, api.World{R: releases(), D: fresh().D, Net: net}, want)
			}
			checkOdd(out[at%len(out)], api.ErrRange)
			checkOdd(torn[at%len(torn)], api.ErrForm)
		}
	}
	for _, c := range out {
		checkRefused(t, with(fresh(), func(w *api.World) { w.Net = []api.Chunk{c} }), api.ErrRange)
		for _, x := range torn {
			checkRefused(t, with(fresh(), func(w *api.World) { w.Net = []api.Chunk{c, x} }), api.ErrRange)
			checkRefused(t, with(fresh(), func(w *api.World) { w.Net = append(mixed(), x, c) }), api.ErrForm)
		}
	}
}

func TestCheckLeavesTheRest(t *testing.T) { // P11.1: chunks of the network may be of no release, of several patches, and twice there
	w := fresh()
	w.Net = slices.Concat(mixed(), mixed())
	checkAccepted(t, w)
	w.D = newer(30) // the device may hold what is no release
	checkAccepted(t, w)
	w.R = [][]byte{upTo(64, 0, 0)}
	checkAccepted(t, w)
}

// changes are changes of one field each; none of them leaves a world as it was.
func changes() []func(*api.World) {
	return []func(*api.World){
		func(w *api.World) { w.R = nil },
		func(w *api.World) { w.R = w.R[1:] },
		func(w *api.World) { w.R = w.R[:len(w.R)-1] },
		func(w *api.World) { w.R = append(w.R, nil) },
		func(w *api.World) { w.R[0], w.R[1] = w.R[1], w.R[0] },
		func(w *api.World) { w.R[2] = []byte{0} },
		func(w *api.World) { w.R[3] = w.R[3][:63] },
		func(w *api.World) { w.R[3][63]++ },
		func(w *api.World) { w.R[0][0] ^= 128 },
		func(w *api.World) { w.D.Slots[0] = nil },
		func(w *api.World) { w.D.Slots[1][63]++ },
		func(w *api.World) { w.D.Copies[0].OK = !w.D.Copies[0].OK },
		func(w *api.World) { w.D.Copies[1].R.Gen++ },
		func(w *api.World) { w.D.Copies[0].R.In[1].Sum++ },
		func(w *api.World) { w.D.Up = !w.D.Up },
		func(w *api.World) { w.D.Running-- },
		func(w *api.World) { w.D.Got = append(w.D.Got, api.Chunk{}) },
		func(w *api.World) { w.D.Busy = !w.D.Busy },
		func(w *api.World) { w.D.Job.New = math.MinInt },
		func(w *api.World) { w.D.Job.Ops = append(w.D.Job.Ops, api.Op{}) },
		func(w *api.World) { w.D.Done = math.MaxInt },
		func(w *api.World) { w.Net = nil },
		func(w *api.World) { w.Net = w.Net[1:] },
		func(w *api.World) { w.Net = w.Net[:len(w.Net)-1] },
		func(w *api.World) { w.Net = append(w.Net, api.Chunk{}) },
		func(w *api.World) { w.Net[0], w.Net[1] = w.Net[1], w.Net[0] },
		func(w *api.World) { w.Net[0].From++ },
		func(w *api.World) { w.Net[1].To = math.MinInt },
		func(w *api.World) { w.Net[1].N++ },
		func(w *api.World) { w.Net[1].Of++ },
		func(w *api.World) { w.Net[2].Data = nil },
		func(w *api.World) { w.Net[2].Data[0]++ },
	}
}

func TestSame(t *testing.T) { // P11.1: one field that differs, in valid worlds and others
	busy := step(told(fresh().D, pieces(1, 2)...), device.Open)
	for _, w := range []api.World{
		{R: releases(), D: fresh().D, Net: mixed()},
		{R: releases(), D: busy, Net: pieces(1, 2)},
		{R: slices.Repeat(releases(), 9), D: api.Device{Slots: busy.Slots, Running: math.MaxInt}, Net: slices.Concat(pieces(1, 2), make([]api.Chunk, 200))},
	} {
		worlds := []api.World{w}
		for _, change := range changes() {
			worlds = append(worlds, with(w, change))
		}
		for i, a := range worlds {
			for k, b := range worlds {
				if got := Same(own(a), own(b)); got != (i == k) {
					t.Errorf("Same of change %d and change %d of %v: %v", i, k, w, got)
				}
			}
		}
	}
	if !Same(api.World{}, api.World{}) || Same(api.World{}, fresh()) || Same(fresh(), api.World{}) {
		t.Errorf("Same of a world that is zero")
	}
}

func TestSameTakesEmptyForNil(t *testing.T) { // P11.1, P2
	empty := api.World{R: [][]byte{}, D: api.Device{Slots: [2][]byte{{}, {}}, Got: []api.Chunk{}, Job: api.Patch{Ops: []api.Op{}}}, Net: []api.Chunk{}}
	if !Same(empty, api.World{}) || !Same(api.World{}, empty) {
		t.Errorf("Same of empty lists and none")
	}
	a, b := api.World{R: [][]byte{nil}, Net: []api.Chunk{{}}}, api.World{R: [][]byte{{}}, Net: []api.Chunk{{Data: []byte{}}}}
	if !Same(a, b) || !Same(b, a) || Same(a, api.World{}) || Same(api.World{R: a.R}, api.World{}) {
		t.Errorf("Same of lists that hold empty lists")
	}
	long := fresh()
	long.R[0] = append(bytes.Clone(long.R[0]), 1, 2, 3)[:len(long.R[0])]
	if !Same(long, fresh()) || !Same(fresh(), long) { // the capacity does not count
		t.Errorf("Same of a list with spare capacity")
	}
}
