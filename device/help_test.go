package device

import (
	"bytes"
	"fmt"
	"math"
	"slices"
	"testing"

	"cobbler/api"
	"cobbler/chunk"
	"cobbler/patch"
	"cobbler/record"
	"cobbler/sum"
)

// numbers returns a source of numbers below a limit; they look random and are the same each time.
func numbers(seed uint64) func(int) int {
	return func(limit int) int {
		seed = seed*6364136223846793005 + 1442695040888963407
		return int(seed >> 33 % uint64(limit))
	}
}

// extremes are values that no field may have.
func extremes() []int {
	return []int{-1, -2, -8, 1000001, math.MaxInt32, math.MinInt32, 1 << 32, 1<<32 + 1, 1<<32 + 8, math.MaxInt, math.MaxInt - 7, math.MinInt, math.MinInt + 8}
}

// text shows a device with all of its fields; nil and empty lists look alike.
func text(d api.Device) string { return fmt.Sprintf("%v", d) }

// own returns a device with memory of its own.
func own(d api.Device) api.Device {
	for k := range d.Slots {
		d.Slots[k] = bytes.Clone(d.Slots[k])
	}
	d.Got = ownChunks(d.Got)
	var ops []api.Op
	for _, o := range d.Job.Ops {
		ops = append(ops, api.Op{At: o.At, Len: o.Len, Data: bytes.Clone(o.Data)})
	}
	d.Job.Ops = ops
	return d
}

func ownChunks(l []api.Chunk) []api.Chunk {
	var m []api.Chunk
	for _, c := range l {
		m = append(m, api.Chunk{From: c.From, To: c.To, N: c.N, Of: c.Of, Data: bytes.Clone(c.Data)})
	}
	return m
}

// with returns d after a change, which d itself does not see.
func with(d api.Device, change func(*api.Device)) api.Device {
	d = own(d)
	change(&d)
	return d
}

// slot returns the 64 bytes of a slot with the image b, with the byte rest behind it.
func slot(b []byte, rest byte) []byte {
	s := bytes.Repeat([]byte{rest}, 64)
	copy(s, b)
	return s
}

// oldImage has 20 bytes, and newImage 27: it ends in the midst of its fourth sector.
func oldImage() []byte { return []byte("the old image, v. 5.") }

func newImage() []byte { return []byte("A new image: ver. 7 is here") }

// upgrade returns the patch from version 5 to version 7.
func upgrade() api.Patch {
	p, e := patch.Make(5, 7, oldImage(), newImage())
	if e != api.OK || len(p.Ops) < 3 {
		panic("no patch")
	}
	return p
}

// pieces returns the chunks of a patch.
func pieces(p api.Patch) []api.Chunk {
	l, e := chunk.Cut(p)
	if e != api.OK {
		panic("no chunks")
	}
	return l
}

// calm returns the record of a device with version 5 in slot 0, which is Active, and version 4 in slot 1.
func calm() api.Record {
	return api.Record{Gen: 8, Floor: 4, In: [2]api.Info{{Version: 5, Size: 20, Sum: sum.Of(oldImage())}, {Version: 4, Size: 64, Sum: 4444}}}
}

// kept returns copies of a record, the valid one of them second, with an older one first.
func kept(r api.Record) [2]api.Copy {
	old := calm()
	old.Gen = r.Gen - 1
	return [2]api.Copy{{OK: true, R: old}, {OK: true, R: r}}
}

// settled returns a device that runs version 5 from slot 0, and was sent nothing.
func settled() api.Device {
	return api.Device{Slots: [2][]byte{slot(oldImage(), 0), slot(nil, 9)}, Copies: kept(calm()), Up: true}
}

// ready returns a device that was sent all of the patch.
func ready() api.Device {
	d := settled()
	d.Got = pieces(upgrade())
	return d
}

// emptied returns the record of a device that installs.
func emptied() api.Record {
	r := calm()
	r.In[1] = api.Info{}
	return r
}

// busy returns a device that has written so many bytes of the new image; what it will write over is still there.
func busy(done int) api.Device {
	d := settled()
	d.Copies, d.Busy, d.Job, d.Done = kept(emptied()), true, upgrade(), done
	copy(d.Slots[1], slot(newImage(), 0)[:done])
	return d
}

// tested returns the record of a device that tries version 7, as many times as tries says.
func tested(tries int) api.Record {
	r := calm()
	r.Trying, r.Tries = true, tries
	r.In[1] = api.Info{Version: 7, Size: 27, Sum: sum.Of(newImage())}
	return r
}

// trying returns a device that is to try version 7, or (running 1) does so.
func trying(tries, running int) api.Device {
	d := settled()
	d.Copies, d.Running = kept(tested(tries)), running
	copy(d.Slots[1], slot(newImage(), 0)[:32])
	return d
}

// down returns a device after the power failed.
func down(d api.Device) api.Device {
	d = own(d)
	return api.Device{Slots: d.Slots, Copies: d.Copies}
}

// turned returns a device with its slots exchanged.
func turned(d api.Device) api.Device {
	d = own(d)
	d.Slots[0], d.Slots[1] = d.Slots[1], d.Slots[0]
	for k := range d.Copies {
		if r := &d.Copies[k].R; d.Copies[k].OK {
			r.Active = 1 - r.Active
			r.In[0], r.In[1] = r.In[1], r.In[0]
		}
	}
	if d.Up {
		d.Running = 1 - d.Running
	}
	return d
}

// swapped returns a device with its copies exchanged.
func swapped(d api.Device) api.Device {
	d = own(d)
	d.Copies[0], d.Copies[1] = d.Copies[1], d.Copies[0]
	return d
}

// last returns a device whose record has the largest Gen.
func last(d api.Device) api.Device {
	return with(d, func(d *api.Device) {
		_, at, _ := record.Read(d.Copies)
		d.Copies[at].R.Gen = 1000000
	})
}

// reading returns the record of a device.
func reading(d api.Device) api.Record {
	r, _, _ := record.Read(d.Copies)
	return r
}

// fine returns devices of all kinds that are valid.
func fine() []api.Device {
	var l []api.Device
	for _, d := range []api.Device{settled(), ready(), busy(0), busy(8), busy(16), busy(24), busy(32), trying(3, 0), trying(3, 1), trying(2, 1), trying(1, 1), trying(0, 1), trying(0, 0)} {
		l = append(l, d, turned(d), swapped(d), down(d), down(turned(d)), last(d))
	}
	return l
}

// written returns the copies after r was stored in the one that is not the record's.
func written(l [2]api.Copy, r api.Record) [2]api.Copy {
	old, at, _ := record.Read(l)
	r.Gen = old.Gen + 1
	l[1-at] = api.Copy{OK: true, R: r}
	return l
}

// isZeroPatch goes through all fields.
func isZeroPatch(p api.Patch) bool {
	return p.From == 0 && p.To == 0 && p.Old == 0 && p.New == 0 && p.Size == 0 && len(p.Ops) == 0
}

// slowCheck goes through the six points of section 'Check' one by one.
func slowCheck(d api.Device) api.Errno {
	if len(d.Slots[0]) != 64 || len(d.Slots[1]) != 64 { // 1
		return api.ErrForm
	}
	r, _, e := record.Read(d.Copies)
	if e != api.OK {
		return e
	}
	if !d.Up { // 2
		if d.Running != 0 || len(d.Got) != 0 || d.Busy || !isZeroPatch(d.Job) || d.Done != 0 {
			return api.ErrForm
		}
		return api.OK
	}
	if d.Running != 0 && d.Running != 1 { // 3
		return api.ErrRange
	}
	if !r.Trying && d.Running != r.Active {
		return api.ErrRange
	}
	if e := chunk.List(d.Got); e != api.OK {
		return e
	}
	if !d.Busy { // 4
		if d.Done != 0 || !isZeroPatch(d.Job) {
			return api.ErrForm
		}
		return api.OK
	}
	return slowCheckBusy(d, r)
}

// slowCheckBusy goes through the last two points.
func slowCheckBusy(d api.Device, r api.Record) api.Errno {
	good, free := d.Slots[0], d.Slots[1]
	in, out := r.In[0], r.In[1]
	if r.Active == 1 {
		good, free, in, out = free, good, out, in
	}
	switch { // 5
	case r.Trying:
		return api.ErrForm
	case d.Job.To < r.Floor:
		return api.ErrForm
	case d.Job.From != in.Version:
		return api.ErrForm
	case out.Version != 0:
		return api.ErrForm
	}
	b, e := patch.Do(d.Job, good[:in.Size])
	if e != api.OK {
		return e
	}
	for n := 0; n <= 64 && n < len(b)+8; n += 8 { // 6: the numbers that Done may be
		if n != d.Done {
			continue
		}
		for i := range n {
			if i < len(b) && free[i] != b[i] || i >= len(b) && free[i] != 0 {
				return api.ErrForm
			}
		}
		return api.OK
	}
	return api.ErrRange
}

// slowBegin returns the errors that all functions begin with.
func slowBegin(d api.Device, up bool) api.Errno {
	e := slowCheck(d)
	if e == api.OK && d.Up != up {
		return api.ErrLate
	}
	return e
}

func slowHear(d api.Device, c api.Chunk) (api.Device, api.Errno) {
	if e := slowBegin(d, true); e != api.OK {
		return api.Device{}, e
	}
	if d.Busy {
		return api.Device{}, api.ErrLate
	}
	l, e := chunk.Add(d.Got, c)
	if e != api.OK {
		return api.Device{}, e
	}
	return api.Device{Slots: d.Slots, Copies: d.Copies, Up: true, Running: d.Running, Got: l}, api.OK
}

func slowOpen(d api.Device) (api.Device, api.Errno) {
	if e := slowBegin(d, true); e != api.OK {
		return api.Device{}, e
	}
	r := reading(d)
	p, e := chunk.Join(d.Got)
	switch {
	case d.Busy:
		return api.Device{}, api.ErrLate
	case r.Trying:
		return api.Device{}, api.ErrLate
	case e != api.OK:
		return api.Device{}, e
	case p.From != r.In[r.Active].Version:
		return api.Device{}, api.ErrWho
	case p.To < r.Floor:
		return api.Device{}, api.ErrWho
	}
	if _, e := patch.Do(p, d.Slots[r.Active][:r.In[r.Active].Size]); e != api.OK {
		return api.Device{}, e
	}
	if r.Gen == 1000000 {
		return api.Device{}, api.ErrRange
	}
	if r.Active == 0 {
		r.In = [2]api.Info{r.In[0], {}}
	} else {
		r.In = [2]api.Info{{}, r.In[1]}
	}
	return api.Device{Slots: d.Slots, Copies: written(d.Copies, r), Up: true, Running: d.Running, Busy: true, Job: p}, api.OK
}

func slowWrite(d api.Device, torn bool, keep int) (api.Device, api.Errno) {
	if e := slowBegin(d, true); e != api.OK {
		return api.Device{}, e
	}
	if !d.Busy || d.Job.Size <= d.Done {
		return api.Device{}, api.ErrLate
	}
	r := reading(d)
	b, _ := patch.Do(d.Job, d.Slots[r.Active][:r.In[r.Active].Size])
	d = own(d)
	for i := range 8 { // byte by byte
		if torn && i >= keep {
			break
		}
		x := byte(0)
		if d.Done+i < len(b) {
			x = b[d.Done+i]
		}
		d.Slots[1-r.Active][d.Done+i] = x
	}
	if torn {
		return down(d), api.OK
	}
	d.Done += 8
	return d, api.OK
}

func slowFinish(d api.Device, torn bool) (api.Device, api.Errno) {
	if e := slowBegin(d, true); e != api.OK {
		return api.Device{}, e
	}
	if !d.Busy || d.Job.Size > d.Done {
		return api.Device{}, api.ErrLate
	}
	r := reading(d)
	if r.Gen == 1000000 {
		return api.Device{}, api.ErrRange
	}
	in := r.In
	in[1-r.Active] = api.Info{Version: d.Job.To, Size: d.Job.Size, Sum: d.Job.New}
	l := written(d.Copies, api.Record{Active: r.Active, Trying: true, Tries: 3, Floor: r.Floor, In: in})
	if !torn {
		return api.Device{Slots: d.Slots, Copies: l, Up: true, Running: d.Running, Got: d.Got}, api.OK
	}
	_, at, _ := record.Read(d.Copies)
	l[1-at] = api.Copy{}
	return api.Device{Slots: d.Slots, Copies: l}, api.OK
}

func slowConfirm(d api.Device) (api.Device, api.Errno) {
	if e := slowBegin(d, true); e != api.OK {
		return api.Device{}, e
	}
	r := reading(d)
	if d.Running == r.Active {
		return api.Device{}, api.ErrLate
	}
	if r.Gen == 1000000 {
		return api.Device{}, api.ErrRange
	}
	floor := max(r.Floor, r.In[d.Running].Version)
	l := written(d.Copies, api.Record{Active: d.Running, Floor: floor, In: r.In})
	return api.Device{Slots: d.Slots, Copies: l, Up: true, Running: d.Running, Got: d.Got}, api.OK
}

func slowCrash(d api.Device) (api.Device, api.Errno) {
	if e := slowBegin(d, true); e != api.OK {
		return api.Device{}, e
	}
	return down(d), api.OK
}

func slowBoot(d api.Device) (api.Device, api.Errno) {
	if e := slowBegin(d, false); e != api.OK {
		return api.Device{}, e
	}
	r := reading(d)
	after := api.Device{Slots: d.Slots, Copies: d.Copies, Up: true, Running: r.Active}
	if !r.Trying {
		return after, api.OK
	}
	if r.Gen == 1000000 {
		return api.Device{}, api.ErrRange
	}
	if r.Tries > 0 {
		after.Running = 1 - r.Active
		r.Tries--
	} else {
		r.Trying = false
	}
	after.Copies = written(d.Copies, r)
	return after, api.OK
}

// deed is a function of the package with all of its arguments but the device, and the slow version of it.
type deed struct {
	name      string
	do, slow  func(api.Device) (api.Device, api.Errno)
	whileDown bool
}

func hearing(c api.Chunk) deed {
	return deed{fmt.Sprintf("Hear %v", c), func(d api.Device) (api.Device, api.Errno) { return Hear(d, c) },
		func(d api.Device) (api.Device, api.Errno) { return slowHear(d, c) }, false}
}

func writing(torn bool, keep int) deed {
	return deed{fmt.Sprintf("Write %v %d", torn, keep), func(d api.Device) (api.Device, api.Errno) { return Write(d, torn, keep) },
		func(d api.Device) (api.Device, api.Errno) { return slowWrite(d, torn, keep) }, false}
}

func finishing(torn bool) deed {
	return deed{fmt.Sprintf("Finish %v", torn), func(d api.Device) (api.Device, api.Errno) { return Finish(d, torn) },
		func(d api.Device) (api.Device, api.Errno) { return slowFinish(d, torn) }, false}
}

func opening() deed { return deed{"Open", Open, slowOpen, false} }

func confirming() deed { return deed{"Confirm", Confirm, slowConfirm, false} }

func crashing() deed { return deed{"Crash", Crash, slowCrash, false} }

func booting() deed { return deed{"Boot", Boot, slowBoot, true} }

// deeds returns all functions, with a chunk that is valid and one that is not, torn and not.
func deeds() []deed {
	return []deed{hearing(pieces(upgrade())[0]), hearing(api.Chunk{}), opening(), writing(false, 0), writing(true, 3), finishing(false), finishing(true), confirming(), crashing(), booting()}
}

// check says whether a function returns this device, or (with an error) none.
func check(t *testing.T, f deed, d, want api.Device, wantError api.Errno) {
	t.Helper()
	got, e := f.do(d)
	if text(got) != text(want) || e != wantError {
		t.Errorf("%s of %v\n= %v, %d\nwant %v, %d", f.name, d, got, e, want, wantError)
	}
}

// checkError says whether a function returns this error, and nothing with it.
func checkError(t *testing.T, f deed, d api.Device, want api.Errno) {
	t.Helper()
	check(t, f, d, api.Device{}, want)
}

// checkRefused says whether all functions return this error for a device.
func checkRefused(t *testing.T, d api.Device, want api.Errno) {
	t.Helper()
	if e := Check(d); e != want {
		t.Errorf("Check(%v) = %d, want %d", d, e, want)
	}
	if e := slowCheck(d); e != want {
		t.Errorf("the slow Check of %v is %d, want %d", d, e, want)
	}
	for _, f := range deeds() {
		checkError(t, f, d, want)
	}
}

// checkAccepted says whether a device is valid.
func checkAccepted(t *testing.T, d api.Device) {
	t.Helper()
	if e := Check(d); e != api.OK {
		t.Errorf("Check(%v) = %d", d, e)
	}
}

// done returns the device after some deeds, none of which may return an error.
func done(t *testing.T, d api.Device, l ...deed) api.Device {
	t.Helper()
	for _, f := range l {
		x, e := f.do(d)
		if e != api.OK {
			t.Fatalf("%s of %v: %d", f.name, d, e)
		}
		d = x
		checkAccepted(t, d)
	}
	return d
}

// zeroBut returns patches with one field that is not zero.
func zeroBut() []api.Patch {
	return []api.Patch{{From: 1}, {To: 1}, {Old: 1}, {New: 1}, {Size: 1}, {Ops: []api.Op{{}}}, {From: -1}, {To: math.MinInt}, {Size: math.MaxInt}, upgrade()}
}

// shuffled returns the chunks in some order.
func shuffled(l []api.Chunk, next func(int) int) []api.Chunk {
	l = slices.Clone(l)
	for i := range l {
		k := i + next(len(l)-i)
		l[i], l[k] = l[k], l[i]
	}
	return l
}
