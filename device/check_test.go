package device

import (
	"bytes"
	"math"
	"slices"
	"testing"

	"cobbler/api"
	"cobbler/patch"
	"cobbler/sum"
)

func TestNew(t *testing.T) { // P10.1: an image of no bytes, of the largest size, and of all in between
	for n := range 65 {
		for _, x := range []byte{0, 1, 255} {
			b := bytes.Repeat([]byte{x}, n)
			want := api.Device{
				Slots:  [2][]byte{append(bytes.Clone(b), make([]byte, 64-n)...), make([]byte, 64)},
				Copies: [2]api.Copy{{OK: true, R: api.Record{Gen: 1, Floor: 1, In: [2]api.Info{{Version: 1, Size: n, Sum: sum.Of(b)}, {}}}}, {}},
				Up:     true,
			}
			d, e := New(b)
			if text(d) != text(want) || e != api.OK {
				t.Errorf("New of %d bytes = %v, %d, want %v", n, d, e, want)
			}
			checkAccepted(t, d)
		}
	}
	d, e := New([]byte("cobbler"))
	if d.Copies[0].R.In[0] != (api.Info{Version: 1, Size: 7, Sum: 43159}) || e != api.OK {
		t.Errorf("New: %v, %d", d, e)
	}
	d, e = New(nil)
	if d.Copies[0].R.In[0] != (api.Info{Version: 1, Size: 0, Sum: 1}) || e != api.OK || Check(d) != api.OK {
		t.Errorf("New of nil: %v, %d", d, e)
	}
}

func TestNewTooLarge(t *testing.T) { // P10.1: one byte more than the largest image, and many more
	for _, n := range []int{65, 66, 72, 128, 256, 65600} {
		if d, e := New(make([]byte, n)); text(d) != text(api.Device{}) || e != api.ErrMany {
			t.Errorf("New of %d bytes = %v, %d", n, d, e)
		}
	}
}

func TestNewRunsSlot0(t *testing.T) { // P10.1: the example of the chapter
	d, e := New(oldImage())
	if e != api.OK || !d.Up || d.Running != 0 || reading(d).Active != 0 || reading(d).Trying {
		t.Errorf("New: %v, %d", d, e)
	}
}

func TestCheckAccepts(t *testing.T) { // P10.1
	for _, d := range fine() {
		checkAccepted(t, d)
		if e := slowCheck(d); e != api.OK {
			t.Errorf("the slow Check of %v is %d", d, e)
		}
		empty := with(d, func(d *api.Device) { // an empty list is as good as none
			if len(d.Got) == 0 {
				d.Got = []api.Chunk{}
			}
			if len(d.Job.Ops) == 0 {
				d.Job.Ops = []api.Op{}
			}
		})
		checkAccepted(t, empty)
	}
}

func TestCheckSlots(t *testing.T) { // P10.1: point 1, before everything else
	for _, n := range []int{0, 1, 8, 56, 63, 65, 72, 128} {
		for k := range 2 {
			for _, d := range []api.Device{settled(), ready(), busy(8), trying(2, 1), down(settled())} {
				bad := with(d, func(d *api.Device) { d.Slots[k] = make([]byte, n) })
				checkRefused(t, bad, api.ErrForm)
				checkRefused(t, with(bad, func(d *api.Device) { d.Copies[1].R.Gen = 0 }), api.ErrForm)    // ErrRange
				checkRefused(t, with(bad, func(d *api.Device) { d.Copies = [2]api.Copy{} }), api.ErrForm) // ErrTorn
				checkRefused(t, with(bad, func(d *api.Device) { d.Up, d.Running = true, 2 }), api.ErrForm)
				checkRefused(t, with(bad, func(d *api.Device) { d.Up, d.Got = true, []api.Chunk{{}} }), api.ErrForm)
			}
		}
	}
	checkRefused(t, with(settled(), func(d *api.Device) { d.Slots = [2][]byte{} }), api.ErrForm)
	checkRefused(t, api.Device{}, api.ErrForm)
	checkRefused(t, api.Device{Up: true, Busy: true, Job: upgrade(), Done: math.MinInt}, api.ErrForm)
	long := with(settled(), func(d *api.Device) { d.Slots[1] = make([]byte, 64, 200) }) // the capacity does not count
	checkAccepted(t, long)
}

func TestCheckRecord(t *testing.T) { // P10.1: point 1, the error of the record, before those of the other fields
	for _, d := range []api.Device{settled(), ready(), busy(8), trying(2, 1), down(settled()), down(trying(1, 0))} {
		for _, c := range []struct {
			change func(*api.Device)
			want   api.Errno
		}{
			{func(d *api.Device) { d.Copies = [2]api.Copy{} }, api.ErrTorn},
			{func(d *api.Device) { d.Copies[0].OK = false }, api.ErrForm},
			{func(d *api.Device) { d.Copies[1].OK = false }, api.ErrForm},
			{func(d *api.Device) { d.Copies[0].R = api.Record{} }, api.ErrRange},
			{func(d *api.Device) { d.Copies[1].R = api.Record{} }, api.ErrRange},
			{func(d *api.Device) { d.Copies[1].R.Active = 2 }, api.ErrRange},
			{func(d *api.Device) { d.Copies[1].R.Active = -1 }, api.ErrRange},
			{func(d *api.Device) { d.Copies[1].R.In[0].Size = 65 }, api.ErrRange},
			{func(d *api.Device) { d.Copies[1].R.In[1].Size = -1 }, api.ErrRange},
			{func(d *api.Device) { d.Copies[1].R.In[0].Version = 3 }, api.ErrForm}, // below Floor
			{func(d *api.Device) { d.Copies[0].R.In[0] = api.Info{} }, api.ErrForm},
		} {
			bad := with(d, c.change)
			checkRefused(t, bad, c.want)
			for _, up := range []bool{false, true} {
				checkRefused(t, with(bad, func(d *api.Device) { d.Up, d.Running = up, 2 }), c.want)
				checkRefused(t, with(bad, func(d *api.Device) { d.Up, d.Got = up, []api.Chunk{{}} }), c.want)
				checkRefused(t, with(bad, func(d *api.Device) { d.Up, d.Busy, d.Done = up, true, 3 }), c.want)
				checkRefused(t, with(bad, func(d *api.Device) { d.Up, d.Busy, d.Done = up, false, 3 }), c.want)
			}
		}
		for _, x := range extremes() {
			checkRefused(t, with(d, func(d *api.Device) { d.Copies[1].R.Active = x }), api.ErrRange)
			checkRefused(t, with(d, func(d *api.Device) { d.Copies[1].R.In[0].Size = x }), api.ErrRange)
			checkRefused(t, with(d, func(d *api.Device) { d.Copies[0].R.Gen = x }), api.ErrRange)
		}
	}
	one := with(settled(), func(d *api.Device) { d.Copies[0] = api.Copy{} })
	checkAccepted(t, one)
	checkAccepted(t, swapped(one))
}

func TestCheckDown(t *testing.T) { // P10.1: point 2, each other field not zero
	for _, d := range []api.Device{down(settled()), down(busy(8)), down(trying(3, 0)), down(turned(settled())), last(down(settled()))} {
		checkAccepted(t, d)
		for _, x := range append(extremes(), 1, 2, 8) {
			checkRefused(t, with(d, func(d *api.Device) { d.Running = x }), api.ErrForm)
			checkRefused(t, with(d, func(d *api.Device) { d.Done = x }), api.ErrForm)
		}
		for _, p := range zeroBut() {
			checkRefused(t, with(d, func(d *api.Device) { d.Job = p }), api.ErrForm)
		}
		checkRefused(t, with(d, func(d *api.Device) { d.Busy = true }), api.ErrForm)
		checkRefused(t, with(d, func(d *api.Device) { d.Got = pieces(upgrade()) }), api.ErrForm)
		checkRefused(t, with(d, func(d *api.Device) { d.Got = []api.Chunk{{}} }), api.ErrForm) // not the ErrRange of chunk.List
		checkRefused(t, with(d, func(d *api.Device) { d.Running, d.Got = 2, []api.Chunk{{}} }), api.ErrForm)
	}
	for _, d := range []api.Device{ready(), busy(0), trying(2, 1)} { // all fields stay, but Up
		checkRefused(t, with(d, func(d *api.Device) { d.Up = false }), api.ErrForm)
	}
}

func TestCheckRunning(t *testing.T) { // P10.1: point 3, Running that is not Active, Trying and not
	for _, d := range []api.Device{settled(), ready(), busy(0), busy(16)} {
		for _, bad := range []api.Device{with(d, func(d *api.Device) { d.Running = 1 }), with(turned(d), func(d *api.Device) { d.Running = 0 })} {
			checkRefused(t, bad, api.ErrRange)
			checkRefused(t, with(bad, func(d *api.Device) { d.Got = slices.Repeat(pieces(upgrade()), 2) }), api.ErrRange) // ErrForm
			checkRefused(t, with(bad, func(d *api.Device) { d.Busy, d.Done = false, 1 }), api.ErrRange)
			checkRefused(t, with(bad, func(d *api.Device) { d.Busy, d.Job = true, api.Patch{} }), api.ErrRange)
		}
	}
	for tries := range 4 {
		for running := range 2 {
			checkAccepted(t, trying(tries, running))
			checkAccepted(t, turned(trying(tries, running)))
		}
	}
	for _, d := range []api.Device{settled(), turned(settled()), busy(8), trying(3, 0), trying(0, 1), turned(trying(1, 1))} {
		for _, x := range append(extremes(), 2, 3, 64) {
			bad := with(d, func(d *api.Device) { d.Running = x })
			checkRefused(t, bad, api.ErrRange)
			checkRefused(t, with(bad, func(d *api.Device) { d.Busy, d.Job = true, api.Patch{} }), api.ErrRange)
			checkRefused(t, with(bad, func(d *api.Device) { d.Busy, d.Done = false, 1 }), api.ErrRange)
		}
	}
}

func TestCheckGot(t *testing.T) { // P10.1: point 3, the error of chunk.List
	whole := pieces(upgrade())
	if len(whole) < 3 {
		t.Fatalf("only %d chunks", len(whole))
	}
	for _, d := range []api.Device{settled(), turned(settled()), busy(8), trying(3, 0), trying(2, 1)} {
		checkAccepted(t, with(d, func(d *api.Device) { d.Got = whole }))
		checkAccepted(t, with(d, func(d *api.Device) { d.Got = whole[1:2] }))
		for _, c := range []struct {
			l    []api.Chunk
			want api.Errno
		}{
			{[]api.Chunk{{}}, api.ErrRange},
			{[]api.Chunk{whole[0], {}}, api.ErrRange},
			{[]api.Chunk{whole[1], whole[0]}, api.ErrForm},
			{[]api.Chunk{whole[0], whole[0]}, api.ErrForm},
			{[]api.Chunk{whole[1], whole[0], {}}, api.ErrForm},
			{[]api.Chunk{{}, whole[1], whole[0]}, api.ErrRange},
			{[]api.Chunk{{From: 5, To: 7, N: 0, Of: 1}}, api.ErrForm},
		} {
			bad := with(d, func(d *api.Device) { d.Got = c.l })
			checkRefused(t, bad, c.want)
			checkRefused(t, with(bad, func(d *api.Device) { d.Busy, d.Done = false, 1 }), c.want)
			checkRefused(t, with(bad, func(d *api.Device) { d.Busy, d.Job = true, api.Patch{} }), c.want)
			checkRefused(t, with(bad, func(d *api.Device) { d.Busy, d.Job, d.Done = true, upgrade(), 3 }), c.want)
		}
	}
}

func TestCheckNotBusy(t *testing.T) { // P10.1: point 4, each of Job and Done zero and not
	for _, d := range []api.Device{settled(), turned(settled()), ready(), trying(3, 0), trying(0, 1)} {
		for _, x := range append(extremes(), 1, 7, 8, 64) {
			checkRefused(t, with(d, func(d *api.Device) { d.Done = x }), api.ErrForm)
			checkRefused(t, with(d, func(d *api.Device) { d.Done, d.Job = x, upgrade() }), api.ErrForm)
		}
		for _, p := range zeroBut() {
			checkRefused(t, with(d, func(d *api.Device) { d.Job = p }), api.ErrForm)
		}
	}
	for _, n := range []int{0, 8, 32} {
		checkRefused(t, with(busy(n), func(d *api.Device) { d.Busy = false }), api.ErrForm)
	}
	checkRefused(t, with(busy(0), func(d *api.Device) { d.Job = api.Patch{} }), api.ErrForm) // Busy, but both are zero
	checkRefused(t, with(busy(8), func(d *api.Device) { d.Job = api.Patch{} }), api.ErrForm)
}

func TestCheckJob(t *testing.T) { // P10.1: point 5, before all that Job alone is refused for
	for _, n := range []int{0, 8, 32} {
		for _, d := range []api.Device{busy(n), turned(busy(n)), swapped(busy(n)), last(busy(n))} {
			at := slices.Index(d.Copies[:], api.Copy{OK: true, R: reading(d)})
			free := 1 - reading(d).Active
			for _, bad := range []api.Device{
				with(d, func(d *api.Device) { // Trying, which needs a version in the other slot
					d.Copies[at].R.Trying, d.Copies[at].R.In[free] = true, api.Info{Version: 7}
				}),
				with(d, func(d *api.Device) { d.Copies[at].R.In[free] = api.Info{Version: 1} }),
				with(d, func(d *api.Device) { d.Copies[at].R.In[free] = api.Info{Version: 7, Size: 27, Sum: sum.Of(newImage())} }),
				with(d, func(d *api.Device) { d.Job.From = 4 }),
				with(d, func(d *api.Device) { d.Job.From = 6 }),
				with(d, func(d *api.Device) { d.Job.From = 7 }),
				with(d, func(d *api.Device) { d.Job.To = 3 }),
				with(d, func(d *api.Device) { d.Job.To = 1 }),
				with(d, func(d *api.Device) { d.Copies[at].R.In[1-free].Version = 30 }),
				with(d, func(d *api.Device) { d.Job.From = 0 }), // before the ErrRange of patch.Do
				with(d, func(d *api.Device) { d.Job.From = 31 }),
				with(d, func(d *api.Device) { d.Job.To = 0 }),
				with(d, func(d *api.Device) { d.Job.From = math.MaxInt }),
				with(d, func(d *api.Device) { d.Job.To = math.MinInt }),
			} {
				checkRefused(t, bad, api.ErrForm)
				checkRefused(t, with(bad, func(d *api.Device) { d.Job.New = -1 }), api.ErrForm)       // ErrRange
				checkRefused(t, with(bad, func(d *api.Device) { d.Job.Size = 65 }), api.ErrForm)      // ErrMany
				checkRefused(t, with(bad, func(d *api.Device) { d.Job.Old ^= 1 }), api.ErrForm)       // ErrSum
				checkRefused(t, with(bad, func(d *api.Device) { d.Done = 3 }), api.ErrForm)           // ErrRange
				checkRefused(t, with(bad, func(d *api.Device) { d.Done = math.MinInt }), api.ErrForm) // ErrRange
			}
			for to := 1; to <= 30; to++ { // just below Floor, just at it, and above
				other := with(d, func(d *api.Device) { d.Job.To = to })
				if to < 4 {
					checkRefused(t, other, api.ErrForm)
				} else {
					checkAccepted(t, other)
				}
			}
		}
	}
}

func TestCheckDo(t *testing.T) { // P10.1: point 5, the error of patch.Do, before those of Done
	for _, n := range []int{0, 8, 32} {
		for _, d := range []api.Device{busy(n), turned(busy(n))} {
			active := reading(d).Active
			for _, c := range []struct {
				change func(*api.Device)
				want   api.Errno
			}{
				{func(d *api.Device) { d.Job.To = 31 }, api.ErrRange},
				{func(d *api.Device) { d.Job.To = math.MaxInt }, api.ErrRange},
				{func(d *api.Device) { d.Job.Old = -1 }, api.ErrRange},
				{func(d *api.Device) { d.Job.New = 65536 }, api.ErrRange},
				{func(d *api.Device) { d.Job.Size = 65 }, api.ErrMany},
				{func(d *api.Device) { d.Job.Size = math.MaxInt }, api.ErrMany},
				{func(d *api.Device) { d.Job.Size = -1 }, api.ErrMany},
				{func(d *api.Device) { d.Job.Size = 26 }, api.ErrMany},
				{func(d *api.Device) { d.Job.Size = 28 }, api.ErrForm},
				{func(d *api.Device) { d.Job.Ops = nil }, api.ErrForm},
				{func(d *api.Device) { d.Job.Ops[0] = api.Op{} }, api.ErrForm},
				{func(d *api.Device) { d.Job.Ops[0] = api.Op{At: math.MaxInt, Len: math.MaxInt} }, api.ErrRange},
				{func(d *api.Device) { d.Job.Old ^= 1 }, api.ErrSum},
				{func(d *api.Device) { d.Job.New ^= 1 }, api.ErrSum},
				{func(d *api.Device) { d.Slots[active][0]++ }, api.ErrSum},
				{func(d *api.Device) { d.Slots[active][19]++ }, api.ErrSum},
				{func(d *api.Device) { d.Job.Size, d.Job.Ops = 5, []api.Op{{At: 16, Len: 5}} }, api.ErrRange}, // one byte more than the image has
			} {
				bad := with(d, c.change)
				checkRefused(t, bad, c.want)
				for _, x := range []int{-8, 3, 72, math.MaxInt, math.MinInt} {
					checkRefused(t, with(bad, func(d *api.Device) { d.Done = x }), c.want)
				}
			}
			checkAccepted(t, with(d, func(d *api.Device) { d.Slots[active][20]++ })) // behind the image
		}
	}
}

// sized returns a device that installs an image of n bytes, all of them 200, and has written so many bytes.
func sized(n, done int) api.Device {
	b := bytes.Repeat([]byte{200}, n)
	p, e := patch.Make(5, 7, oldImage(), b)
	if e != api.OK {
		panic("no patch")
	}
	d := busy(0)
	d.Job, d.Done = p, done
	if 0 <= done && done <= 64 {
		copy(d.Slots[1], slot(b, 0)[:done])
	}
	return d
}

func TestCheckDone(t *testing.T) { // P10.1: point 6, Done at its bounds, no multiple of a sector, just below and just at the Size plus a sector
	for n := range 65 {
		for done := -9; done <= 81; done++ {
			good := done >= 0 && done <= 64 && done%8 == 0 && done < n+8
			d := sized(n, done)
			if good {
				checkAccepted(t, d)
				checkAccepted(t, turned(d))
				continue
			}
			if e := Check(d); e != api.ErrRange {
				t.Errorf("Size %d, Done %d: %d", n, done, e)
			}
		}
	}
	for _, c := range []struct {
		n, done int
		want    api.Errno
	}{
		{0, 0, api.OK}, {0, 8, api.ErrRange}, {1, 8, api.OK}, {1, 16, api.ErrRange}, {8, 8, api.OK}, {8, 16, api.ErrRange}, {9, 16, api.OK}, {9, 24, api.ErrRange},
		{27, 32, api.OK}, {27, 40, api.ErrRange}, {63, 64, api.OK}, {64, 64, api.OK}, {64, 72, api.ErrRange}, {57, 64, api.OK}, {56, 64, api.ErrRange},
		{64, -8, api.ErrRange}, {64, 63, api.ErrRange}, {64, 1, api.ErrRange}, {0, 1, api.ErrRange}, {0, -1, api.ErrRange},
	} {
		if e := Check(sized(c.n, c.done)); e != c.want {
			t.Errorf("Size %d, Done %d: %d, want %d", c.n, c.done, e, c.want)
		}
	}
	for _, x := range extremes() {
		for _, n := range []int{0, 27, 64} {
			checkRefused(t, sized(n, x), api.ErrRange)
			checkRefused(t, with(sized(n, x), func(d *api.Device) { d.Slots[1][0]++ }), api.ErrRange)
		}
	}
	checkRefused(t, busy(40), api.ErrRange)
	checkRefused(t, with(busy(8), func(d *api.Device) { d.Done, d.Slots[1][0] = 9, 0 }), api.ErrRange) // before the ErrForm of the bytes
}

func TestCheckWritten(t *testing.T) { // P10.1: point 6, bytes of the other slot that are not those of the new image
	for _, n := range []int{0, 1, 8, 27, 56, 61, 64} {
		for done := 0; done < n+8 && done <= 64; done += 8 {
			for i := range 64 {
				for _, change := range []byte{1, 200, 255} {
					d := with(sized(n, done), func(d *api.Device) { d.Slots[1][i] ^= change })
					want := api.OK
					if i < done {
						want = api.ErrForm
					}
					if e := Check(d); e != want {
						t.Errorf("Size %d, Done %d, byte %d is another: %d, want %d", n, done, i, e, want)
					}
					if e := Check(turned(d)); e != want {
						t.Errorf("turned, Size %d, Done %d, byte %d is another: %d, want %d", n, done, i, e, want)
					}
				}
			}
		}
	}
	checkRefused(t, with(busy(32), func(d *api.Device) { d.Slots[1][27] = 9 }), api.ErrForm) // it must be zero there
	checkRefused(t, with(busy(24), func(d *api.Device) { d.Slots[1][23]++ }), api.ErrForm)
}

// changes returns ways to make a device another one, each in one field.
func changes() []func(*api.Device) {
	l := []func(*api.Device){
		func(d *api.Device) { d.Slots[0] = d.Slots[0][1:] }, func(d *api.Device) { d.Slots[1] = nil }, func(d *api.Device) { d.Slots[1] = append(d.Slots[1], 0) },
		func(d *api.Device) { d.Up = !d.Up }, func(d *api.Device) { d.Running++ }, func(d *api.Device) { d.Running = math.MinInt }, func(d *api.Device) { d.Busy = !d.Busy },
		func(d *api.Device) { d.Done++ }, func(d *api.Device) { d.Done = math.MaxInt },
		func(d *api.Device) { d.Job.From++ }, func(d *api.Device) { d.Job.To++ }, func(d *api.Device) { d.Job.Old++ }, func(d *api.Device) { d.Job.New++ }, func(d *api.Device) { d.Job.Size++ },
		func(d *api.Device) { d.Job.Ops = append(d.Job.Ops, api.Op{}) }, func(d *api.Device) { d.Job.Ops = append([]api.Op{{At: 1}}, d.Job.Ops...) },
		func(d *api.Device) { d.Got = append(d.Got, api.Chunk{}) }, func(d *api.Device) { d.Got = append([]api.Chunk{{N: -1}}, d.Got...) },
	}
	for k := range 2 {
		for i := range 64 {
			l = append(l, func(d *api.Device) {
				if i < len(d.Slots[k]) {
					d.Slots[k][i]++
				} else {
					d.Slots[k] = append(d.Slots[k], make([]byte, 1+i)...)
				}
			})
		}
		l = append(l, func(d *api.Device) { d.Copies[k].OK = !d.Copies[k].OK })
		for _, change := range []func(*api.Record){
			func(r *api.Record) { r.Gen++ }, func(r *api.Record) { r.Active++ }, func(r *api.Record) { r.Trying = !r.Trying }, func(r *api.Record) { r.Tries++ }, func(r *api.Record) { r.Floor++ },
			func(r *api.Record) { r.In[0].Version++ }, func(r *api.Record) { r.In[0].Size++ }, func(r *api.Record) { r.In[0].Sum++ },
			func(r *api.Record) { r.In[1].Version++ }, func(r *api.Record) { r.In[1].Size++ }, func(r *api.Record) { r.In[1].Sum++ },
		} {
			l = append(l, func(d *api.Device) { change(&d.Copies[k].R) })
		}
	}
	return l
}

// changesInside returns ways to change a device that has at least two chunks and three steps.
func changesInside() []func(*api.Device) {
	return []func(*api.Device){
		func(d *api.Device) { d.Got[0].From++ }, func(d *api.Device) { d.Got[1].To++ }, func(d *api.Device) { d.Got[0].N-- }, func(d *api.Device) { d.Got[1].Of++ },
		func(d *api.Device) { d.Got[0].Data[15]++ }, func(d *api.Device) { d.Got[1].Data = nil }, func(d *api.Device) { d.Got = d.Got[:1] }, func(d *api.Device) { d.Got[0], d.Got[1] = d.Got[1], d.Got[0] }, func(d *api.Device) { d.Got = nil },
		func(d *api.Device) { d.Job.Ops[0].At++ }, func(d *api.Device) { d.Job.Ops[1].Len++ }, func(d *api.Device) { d.Job.Ops = d.Job.Ops[:1] }, func(d *api.Device) { d.Job.Ops = nil },
		func(d *api.Device) { d.Job.Ops[0], d.Job.Ops[1] = d.Job.Ops[1], d.Job.Ops[0] }, func(d *api.Device) { d.Job.Ops[1].Data = append(d.Job.Ops[1].Data, 5) },
	}
}

func checkSame(t *testing.T, a, b api.Device, want bool) {
	t.Helper()
	if Same(a, b) != want || Same(b, a) != want {
		t.Errorf("Same(%v,\n%v): %v and %v, want %v", a, b, Same(a, b), Same(b, a), want)
	}
}

func TestSame(t *testing.T) { // P10.1: devices, valid or not, that differ in one field
	full := with(busy(8), func(d *api.Device) { d.Got = pieces(upgrade()) })
	for _, d := range append(fine(), full, api.Device{Slots: [2][]byte{{0}, {0}}}, with(full, func(d *api.Device) { d.Up, d.Running, d.Done = false, -1, -1 })) {
		checkSame(t, d, d, true)
		checkSame(t, d, own(d), true)
		l := changes()
		if len(d.Got) > 1 && len(d.Job.Ops) > 2 {
			l = append(l, changesInside()...)
		}
		for _, change := range l {
			x := with(d, change)
			checkSame(t, d, x, false)
			checkSame(t, x, own(x), true)
		}
	}
	checkSame(t, api.Device{}, api.Device{Slots: [2][]byte{{}, {}}, Got: []api.Chunk{}, Job: api.Patch{Ops: []api.Op{}}}, true) // nil and empty
	checkSame(t, settled(), with(settled(), func(d *api.Device) { d.Slots[0] = append(make([]byte, 0, 200), d.Slots[0]...) }), true)
}

func TestSameOfEachTwo(t *testing.T) { // P10.1: Same is what the text of all fields says
	full := with(busy(8), func(d *api.Device) { d.Got = pieces(upgrade()) })
	l := append(fine(), full, api.Device{})
	for _, change := range append(changes()[:18], changesInside()...) {
		l = append(l, with(full, change))
	}
	for _, a := range l {
		for _, b := range l {
			checkSame(t, a, b, text(a) == text(b))
		}
	}
}
