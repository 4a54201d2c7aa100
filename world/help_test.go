package world

import (
	"bytes"
	"fmt"
	"math"
	"slices"
	"testing"

	"cobbler/api"
	"cobbler/chunk"
	"cobbler/device"
	"cobbler/patch"
	"cobbler/record"
	"cobbler/sum"
)

// numbers returns a source of numbers below a limit; they look random and are the same each time.
func numbers(seed uint64) func(int) int {
	return func(limit int) int {
		seed = seed*6364136223846793005 + 1442695040888963407
		return int(seed >> 33 % uint64(limit))
	}
}

// extremes are values that hardly any field may have.
func extremes() []int {
	return []int{-1, -2, -8, 1000001, math.MaxInt32, math.MinInt32, 1 << 32, 1<<32 + 1, 1<<32 + 2, 1<<32 + 8, math.MaxInt, math.MaxInt - 7, math.MinInt, math.MinInt + 8}
}

// text shows a world with all of its fields; nil and empty lists look alike.
func text(w api.World) string { return fmt.Sprintf("%v", w) }

// own returns a world with memory of its own.
func own(w api.World) api.World {
	return api.World{R: ownImages(w.R), D: ownDevice(w.D), Net: ownChunks(w.Net)}
}

func ownImages(l [][]byte) [][]byte {
	var m [][]byte
	for _, b := range l {
		m = append(m, bytes.Clone(b))
	}
	return m
}

func ownDevice(d api.Device) api.Device {
	for k := range d.Slots {
		d.Slots[k] = bytes.Clone(d.Slots[k])
	}
	d.Got = ownChunks(d.Got)
	var ops []api.Op
	for _, o := range d.Job.Ops {
		ops = append(ops, api.Op{At: o.At, Len: o.Len, Data: bytes.Clone(o.Data)})
	}
	d.Job.Ops = ops
	return d
}

func ownChunks(l []api.Chunk) []api.Chunk {
	var m []api.Chunk
	for _, c := range l {
		m = append(m, api.Chunk{From: c.From, To: c.To, N: c.N, Of: c.Of, Data: bytes.Clone(c.Data)})
	}
	return m
}

// with returns w after a change, which w itself does not see.
func with(w api.World, change func(*api.World)) api.World {
	w = own(w)
	change(&w)
	return w
}

// upTo returns n bytes, which differ from those of another start in most places.
func upTo(n, start, step int) []byte {
	b := make([]byte, n)
	for i := range b {
		b[i] = byte(start + i*step)
	}
	return b
}

// releases are images of 20, 27, no and 64 bytes, and one that differs from the first one in the middle.
func releases() [][]byte {
	return [][]byte{[]byte("the old image, v. 1."), []byte("A new image: ver. 2 is here"), nil, upTo(64, 7, 3), []byte("the old IMAGE, v. 1.")}
}

// fresh returns the world that New returns for the releases.
func fresh() api.World {
	return api.World{R: releases(), D: newDevice(releases()[0])}
}

func newDevice(b []byte) api.Device {
	d, e := device.New(b)
	if e != api.OK {
		panic("no device")
	}
	return d
}

// made returns the patch between two releases.
func made(from, to int) api.Patch {
	l := releases()
	p, e := patch.Make(from, to, l[from-1], l[to-1])
	if e != api.OK {
		panic("no patch")
	}
	return p
}

// pieces returns the chunks of the patch between two releases.
func pieces(from, to int) []api.Chunk {
	l, e := chunk.Cut(made(from, to))
	if e != api.OK {
		panic("no chunks")
	}
	return l
}

// step returns a device after a function of package device, which must succeed.
func step(d api.Device, f func(api.Device) (api.Device, api.Errno)) api.Device {
	x, e := f(d)
	if e != api.OK {
		panic("no device")
	}
	return x
}

func write(d api.Device) (api.Device, api.Errno) { return device.Write(d, false, 0) }

func finish(d api.Device) (api.Device, api.Errno) { return device.Finish(d, false) }

// told returns the device after it heard some chunks.
func told(d api.Device, l ...api.Chunk) api.Device {
	for _, c := range l {
		d = step(d, func(d api.Device) (api.Device, api.Errno) { return device.Hear(d, c) })
	}
	return d
}

// devices returns devices in all states that come one after the other as version to is installed.
func devices(to int) []api.Device {
	d := newDevice(releases()[0])
	l := []api.Device{d, step(d, device.Crash)}
	add := func(f func(api.Device) (api.Device, api.Errno)) {
		d = step(d, f)
		l = append(l, d)
		if d.Up {
			l = append(l, step(d, device.Crash))
		}
	}
	for _, c := range pieces(1, to) {
		add(func(d api.Device) (api.Device, api.Errno) { return device.Hear(d, c) })
	}
	add(device.Open)
	for d.Done < d.Job.Size {
		add(write)
	}
	add(finish)
	for range 3 {
		add(device.Crash)
		add(device.Boot)
	}
	l = append(l, step(step(d, device.Crash), device.Boot)) // not confirmed: back to version 1
	add(device.Confirm)
	add(device.Crash)
	add(device.Boot)
	return l
}

// mixed is a network with chunks of several patches, one of which is of no release, one twice.
func mixed() []api.Chunk {
	l := slices.Concat(pieces(1, 2), pieces(2, 4), pieces(1, 4))
	return append(l, l[1], api.Chunk{From: 29, To: 30, N: 51, Of: 52, Data: []byte{9}}, api.Chunk{From: 7, To: 1, N: 0, Of: 2, Data: upTo(16, 1, 1)})
}

// filled is a network of n chunks.
func filled(n int) []api.Chunk {
	var l []api.Chunk
	for i := range n {
		l = append(l, api.Chunk{From: 1 + i%30, To: 1 + i%29, N: i % 52, Of: 52, Data: upTo(16, i, 1)})
	}
	return l
}

// newer returns a device whose Active slot has that version, and holds no release.
func newer(version int) api.Device {
	d := newDevice([]byte("something else"))
	d.Copies[0].R.In[0].Version = version
	return d
}

// fine returns worlds of all kinds that are valid.
func fine() []api.World {
	var l []api.World
	for to := 1; to <= 4; to++ {
		for _, d := range devices(to) {
			l = append(l, api.World{R: releases(), D: d, Net: mixed()})
		}
	}
	for _, net := range [][]api.Chunk{nil, pieces(1, 2), filled(119), filled(120)} {
		l = append(l, api.World{R: releases(), D: newDevice(releases()[0]), Net: net})
	}
	for _, version := range []int{4, 5, 6, 30} {
		l = append(l, api.World{R: releases(), D: newer(version), Net: mixed()})
	}
	return append(l, api.World{R: [][]byte{nil}, D: newDevice(nil)}, api.World{R: make([][]byte, 30), D: newer(30), Net: pieces(1, 2)})
}

// of returns an event.
func of(kind, n int) api.Happening { return api.Happening{Kind: kind, N: n} }

// all returns an event of each kind, with numbers that suit many worlds and with some that do not.
func all() []api.Happening {
	var l []api.Happening
	for kind := api.HSend; kind <= api.HTearRec; kind++ {
		for _, n := range []int{0, 1, 2, 3, 5, 6, -1, 119, 120} {
			l = append(l, of(kind, n))
		}
	}
	return append(l, of(0, 0), of(13, 1))
}

// slowCheck goes through section 'Check' line by line.
func slowCheck(w api.World) api.Errno {
	if len(w.R) == 0 || len(w.R) >= 31 {
		return api.ErrMany
	}
	longest := 0
	for _, b := range w.R {
		longest = max(longest, len(b))
	}
	if longest >= 65 {
		return api.ErrMany
	}
	if e := device.Check(w.D); e != api.OK {
		return e
	}
	if len(w.Net) >= 121 {
		return api.ErrMany
	}
	for _, c := range w.Net {
		if e := chunk.Check(c); e != api.OK {
			return e
		}
	}
	return api.OK
}

// slowDo goes through section 'Do' line by line.
func slowDo(w api.World, x api.Happening) (api.World, api.Errno) {
	if e := slowCheck(w); e != api.OK {
		return api.World{}, e
	}
	after, e := own(w), api.OK
	switch x.Kind {
	case 1:
		after.Net, e = slowSend(w, x.N)
	case 2, 3, 4:
		after.D, after.Net, e = slowReceive(w, x.Kind, x.N)
	case 5:
		after.D, e = device.Open(w.D)
	case 6:
		after.D, e = device.Write(w.D, false, 0)
	case 7:
		after.D, e = device.Finish(w.D, false)
	case 8:
		after.D, e = device.Confirm(w.D)
	case 9:
		after.D, e = device.Crash(w.D)
	case 10:
		after.D, e = device.Boot(w.D)
	case 11:
		after.D, e = device.Write(w.D, true, x.N)
	case 12:
		after.D, e = device.Finish(w.D, true)
	default:
		e = api.ErrForm
	}
	if e != api.OK {
		return api.World{}, e
	}
	return after, api.OK
}

// slowSend returns the network after a patch was sent.
func slowSend(w api.World, n int) ([]api.Chunk, api.Errno) {
	r, _, _ := record.Read(w.D.Copies)
	images := map[int][]byte{}
	for i, b := range w.R {
		images[i+1] = b
	}
	from := r.In[r.Active].Version
	old, known := images[from]
	b, there := images[n]
	if !known || !there {
		return nil, api.ErrWho
	}
	p, e := patch.Make(from, n, old, b)
	if e != api.OK {
		return nil, e
	}
	l, e := chunk.Cut(p)
	if e != api.OK {
		return nil, e
	}
	net := ownChunks(w.Net)
	for _, c := range l {
		if len(net) == 120 {
			return nil, api.ErrMany
		}
		net = append(net, c)
	}
	return net, api.OK
}

// slowReceive returns the device and the network after chunk n was received, received twice, or lost.
func slowReceive(w api.World, kind, n int) (api.Device, []api.Chunk, api.Errno) {
	d, e := ownDevice(w.D), api.ErrWho
	var net []api.Chunk
	for i, c := range ownChunks(w.Net) {
		if i != n || kind == 3 {
			net = append(net, c)
		}
		if i != n {
			continue
		}
		e = api.OK
		if kind != 4 {
			d, e = device.Hear(w.D, c)
		}
	}
	return d, net, e
}

// slowRun processes the events one by one.
func slowRun(w api.World, l []api.Happening) (api.World, []api.Errno, api.Errno) {
	if e := slowCheck(w); e != api.OK {
		return api.World{}, nil, e
	}
	if len(l) >= 201 {
		return api.World{}, nil, api.ErrMany
	}
	said := make([]api.Errno, len(l))
	for i, x := range l {
		after, e := slowDo(w, x)
		said[i] = e
		if e == api.OK {
			w = after
		}
	}
	return w, said, api.OK
}

// check says whether an event leads to this world, or (with an error) to none.
func check(t *testing.T, w api.World, x api.Happening, want api.World, wantError api.Errno) {
	t.Helper()
	got, e := Do(w, x)
	if text(got) != text(want) || e != wantError {
		t.Errorf("Do of %v and %v\n= %v, %d\nwant %v, %d", w, x, got, e, want, wantError)
	}
}

// checkError says whether an event leads to this error, and to no world.
func checkError(t *testing.T, w api.World, x api.Happening, want api.Errno) {
	t.Helper()
	check(t, w, x, api.World{}, want)
}

// checkRun says whether some events lead to this world, and to these errors.
func checkRun(t *testing.T, w api.World, l []api.Happening, want api.World, wantSaid []api.Errno, wantError api.Errno) {
	t.Helper()
	got, said, e := Run(w, l)
	if text(got) != text(want) || !slices.Equal(said, wantSaid) || e != wantError {
		t.Errorf("Run of %v and %v\n= %v, %v, %d\nwant %v, %v, %d", w, l, got, said, e, want, wantSaid, wantError)
	}
}

// checkRefused says whether all functions return this error for a world, whatever they are to do with it.
func checkRefused(t *testing.T, w api.World, want api.Errno) {
	t.Helper()
	if e := Check(w); e != want {
		t.Errorf("Check(%v) = %d, want %d", w, e, want)
	}
	if e := slowCheck(w); e != want {
		t.Errorf("the slow Check of %v is %d, want %d", w, e, want)
	}
	for kind := -1; kind <= 14; kind++ {
		checkError(t, w, of(kind, 1), want)
		checkError(t, w, of(kind, math.MinInt), want)
	}
	for _, n := range []int{0, 1, 200, 201} {
		checkRun(t, w, make([]api.Happening, n), api.World{}, nil, want)
	}
}

// checkAccepted says whether a world is valid.
func checkAccepted(t *testing.T, w api.World) {
	t.Helper()
	if e := Check(w); e != api.OK {
		t.Errorf("Check(%v) = %d", w, e)
	}
}

// done returns the world after some events, none of which may return an error.
func done(t *testing.T, w api.World, l ...api.Happening) api.World {
	t.Helper()
	for i, x := range l {
		after, e := Do(w, x)
		if e != api.OK {
			t.Fatalf("event %d, %v, of %v: %d", i, x, w, e)
		}
		w = after
		checkAccepted(t, w)
	}
	return w
}

// reading returns the record of a world's device.
func reading(w api.World) api.Record {
	r, _, _ := record.Read(w.D.Copies)
	return r
}

// checkRuns says whether a release runs, byte for byte, from the Active slot or not.
func checkRuns(t *testing.T, w api.World, version int, active bool) {
	t.Helper()
	r, b := reading(w), w.R[version-1]
	in := api.Info{Version: version, Size: len(b), Sum: sum.Of(b)}
	if !w.D.Up || r.In[w.D.Running] != in || (r.Active == w.D.Running) != active || !bytes.Equal(w.D.Slots[w.D.Running][:len(b)], b) {
		t.Errorf("version %d does not run (Active %v): %v", version, active, w)
	}
}
