package device

import (
	"bytes"
	"fmt"
	"math"
	"slices"
	"strings"
	"testing"

	"cobbler/api"
	"cobbler/chunk"
	"cobbler/patch"
	"cobbler/record"
	"cobbler/sum"
)

func TestUpOrNot(t *testing.T) { // P10.2 to P10.4: ErrLate, if the device is not Up (for Boot: if it is)
	for _, d := range fine() {
		for _, f := range deeds() {
			if d.Up == f.whileDown {
				checkError(t, f, d, api.ErrLate)
			}
		}
	}
	checkError(t, hearing(api.Chunk{}), down(settled()), api.ErrLate) // before the ErrRange of the chunk
	checkError(t, booting(), last(trying(3, 0)), api.ErrLate)         // before the ErrRange of the record
}

func TestHear(t *testing.T) { // P10.2: chunks in some order, twice, and of another patch
	l := pieces(upgrade())
	stray := api.Chunk{From: 5, To: 8, N: 1, Of: 3, Data: bytes.Repeat([]byte{1}, 16)}
	for _, start := range []api.Device{settled(), turned(settled()), swapped(settled()), last(settled()), trying(3, 0), trying(1, 1)} {
		d := start
		for _, c := range []struct {
			c    api.Chunk
			want []api.Chunk
		}{
			{l[2], []api.Chunk{l[2]}},
			{l[0], []api.Chunk{l[0], l[2]}},
			{l[2], []api.Chunk{l[0], l[2]}},
			{l[1], l},
			{l[1], l},
			{stray, []api.Chunk{stray}},
			{l[1], []api.Chunk{l[1]}},
		} {
			want := with(start, func(d *api.Device) { d.Got = c.want })
			check(t, hearing(c.c), d, want, api.OK)
			d = done(t, d, hearing(c.c))
		}
	}
}

func TestHearRefused(t *testing.T) { // P10.2
	l := pieces(upgrade())
	bad := []struct {
		c    api.Chunk
		want api.Errno
	}{
		{api.Chunk{}, api.ErrRange},
		{api.Chunk{From: 5, To: 7, N: 3, Of: 3, Data: []byte{1}}, api.ErrRange},
		{api.Chunk{From: 5, To: 7, N: math.MinInt, Of: math.MaxInt, Data: []byte{1}}, api.ErrRange},
		{api.Chunk{From: 5, To: 7, N: 0, Of: 1}, api.ErrForm},
		{api.Chunk{From: 5, To: 7, N: 0, Of: 3, Data: []byte{1}}, api.ErrForm},
		{api.Chunk{From: 5, To: 7, N: 0, Of: 1, Data: make([]byte, 17)}, api.ErrForm},
	}
	for _, c := range bad {
		for _, d := range []api.Device{settled(), ready(), trying(3, 0), trying(1, 1)} {
			checkError(t, hearing(c.c), d, c.want)
		}
		for _, n := range []int{0, 8, 32} { // ErrLate is first
			checkError(t, hearing(c.c), busy(n), api.ErrLate)
			checkError(t, hearing(c.c), turned(busy(n)), api.ErrLate)
		}
	}
	for _, n := range []int{0, 8, 32} {
		checkError(t, hearing(l[0]), busy(n), api.ErrLate)
		checkError(t, hearing(l[0]), with(busy(n), func(d *api.Device) { d.Got = l }), api.ErrLate)
	}
}

func TestOpen(t *testing.T) { // P10.2
	want := busy(0)
	want.Copies = [2]api.Copy{{OK: true, R: emptied()}, {OK: true, R: calm()}}
	want.Copies[0].R.Gen = 9
	check(t, opening(), ready(), want, api.OK)
	check(t, opening(), turned(ready()), turned(want), api.OK)
	check(t, opening(), swapped(ready()), swapped(want), api.OK)
	one := with(ready(), func(d *api.Device) { d.Copies[0] = api.Copy{} })
	check(t, opening(), one, want, api.OK)
	same := with(ready(), func(d *api.Device) { d.Copies[1].R.In[1] = api.Info{} }) // the other slot was empty before: the record is written all the same
	want.Copies[1].R.In[1] = api.Info{}
	check(t, opening(), same, want, api.OK)
}

// offered returns a device that was sent this patch.
func offered(p api.Patch) api.Device {
	return with(settled(), func(d *api.Device) { d.Got = pieces(p) })
}

func TestOpenLate(t *testing.T) { // P10.2: Busy or Trying, before everything else
	heard := func(d api.Device, l []api.Chunk) api.Device { return with(d, func(d *api.Device) { d.Got = l }) }
	other := upgrade()
	other.From = 6
	for _, d := range []api.Device{busy(0), busy(32), trying(3, 0), trying(0, 0), trying(2, 1), turned(busy(8)), turned(trying(1, 1)), last(busy(0)), last(trying(3, 0))} {
		for _, l := range [][]api.Chunk{nil, pieces(upgrade()), pieces(upgrade())[:2], pieces(other), {{From: 5, To: 7, Of: 1, Data: []byte{1}}}} {
			checkError(t, opening(), heard(d, l), api.ErrLate)
		}
	}
}

func TestOpenJoin(t *testing.T) { // P10.2: the error of chunk.Join, before ErrWho
	l := pieces(upgrade())
	for _, d := range []api.Device{settled(), turned(settled()), last(settled())} {
		heard := func(l ...api.Chunk) api.Device { return with(d, func(d *api.Device) { d.Got = l }) }
		checkError(t, opening(), d, api.ErrLate)
		checkError(t, opening(), heard(l[0], l[2]), api.ErrLate)
		checkError(t, opening(), heard(l[0], l[1]), api.ErrLate)
		for _, c := range []struct {
			b    []byte
			want api.Errno
		}{
			{[]byte{1}, api.ErrTorn},
			{[]byte{128, 7}, api.ErrForm},
			{[]byte{136, 0}, api.ErrRange}, // eight bytes of 0
			{[]byte{137, 0}, api.ErrTorn},  // a byte remains
			{[]byte{255, 0, 255, 0, 255, 0, 255, 0}, api.ErrMany},
		} {
			checkError(t, opening(), heard(api.Chunk{From: 5, To: 7, Of: 1, Data: c.b}), c.want)
			checkError(t, opening(), heard(api.Chunk{From: 6, To: 1, Of: 1, Data: c.b}), c.want)
		}
		tale := pieces(upgrade())
		for i := range tale {
			tale[i].To = 8
		}
		checkError(t, opening(), heard(tale...), api.ErrForm) // the patch is to version 7
	}
}

func TestOpenWho(t *testing.T) { // P10.2: from another version, to one just at Floor and just below it; before the error of patch.Do
	for from := 1; from <= 30; from++ {
		for to := 1; to <= 30; to++ {
			p := upgrade()
			p.From, p.To = from, to
			if from != 5 || to < 4 {
				checkError(t, opening(), offered(p), api.ErrWho)
				checkError(t, opening(), turned(offered(p)), api.ErrWho)
				checkError(t, opening(), last(offered(p)), api.ErrWho) // before the ErrRange of record.Write
				p.Old ^= 1
				checkError(t, opening(), offered(p), api.ErrWho)
				continue
			}
			d := done(t, offered(p), opening())
			if !d.Busy || d.Done != 0 || len(d.Got) != 0 || !patch.Same(d.Job, p) {
				t.Errorf("from %d to %d: %v", from, to, d)
			}
		}
	}
}

func TestOpenDo(t *testing.T) { // P10.2: the error of patch.Do, before that of record.Write
	for _, c := range []struct {
		change func(*api.Patch)
		want   api.Errno
	}{
		{func(p *api.Patch) { p.Old ^= 1 }, api.ErrSum},
		{func(p *api.Patch) { p.New ^= 1 }, api.ErrSum},
		{func(p *api.Patch) { p.Size, p.Ops = 5, []api.Op{{At: 16, Len: 5}} }, api.ErrRange},
	} {
		p := upgrade()
		c.change(&p)
		checkError(t, opening(), offered(p), c.want)
		checkError(t, opening(), turned(offered(p)), c.want)
		checkError(t, opening(), last(offered(p)), c.want)
	}
	for _, d := range []api.Device{ready(), turned(ready())} {
		active := reading(d).Active
		checkError(t, opening(), with(d, func(d *api.Device) { d.Slots[active][3]++ }), api.ErrSum)
		checkError(t, opening(), last(with(d, func(d *api.Device) { d.Slots[active][3]++ })), api.ErrSum)
	}
}

func TestLastGen(t *testing.T) { // P10.2 to P10.4: a record with the largest Gen, where it is written once more
	full := last(sized(64, 64))
	for _, c := range []struct {
		f deed
		d api.Device
	}{
		{opening(), ready()}, {finishing(false), busy(32)}, {finishing(true), busy(32)}, {confirming(), trying(3, 1)}, {confirming(), trying(0, 1)},
		{booting(), down(trying(3, 0))}, {booting(), down(trying(1, 0))}, {booting(), down(trying(0, 0))}, {finishing(false), full},
	} {
		checkError(t, c.f, last(c.d), api.ErrRange)
		checkError(t, c.f, last(turned(c.d)), api.ErrRange)
		before := with(last(turned(c.d)), func(d *api.Device) { d.Copies[1].R.Gen = 999999 })
		if after, e := c.f.do(before); e != api.OK || c.f.name != "Finish true" && reading(after).Gen != 1000000 {
			t.Errorf("%s of %v = %v, %d", c.f.name, before, after, e)
		}
	}
	check(t, booting(), last(down(settled())), last(settled()), api.OK) // it does not change, and is not written
	check(t, booting(), last(down(turned(settled()))), last(turned(settled())), api.OK)
	done(t, last(settled()), hearing(pieces(upgrade())[0]), crashing(), booting(), crashing(), booting())
	done(t, last(busy(0)), writing(false, 0), writing(false, 0), writing(true, 4), booting())
}

func TestWrite(t *testing.T) { // P10.3: the sectors of an image, one after the other
	for _, turn := range []func(api.Device) api.Device{own, turned, swapped, last} {
		d := turn(busy(0))
		for n := 8; n <= 32; n += 8 {
			check(t, writing(false, 0), d, turn(busy(n)), api.OK)
			for _, keep := range []int{1, 8, -5, math.MaxInt, math.MinInt} { // it counts only if the write is torn
				check(t, writing(false, keep), d, turn(busy(n)), api.OK)
			}
			d = done(t, d, writing(false, 0))
		}
		checkError(t, writing(false, 0), d, api.ErrLate)
		checkError(t, writing(true, 3), d, api.ErrLate)
	}
}

func TestWriteEverySize(t *testing.T) { // P10.3: images of no bytes, of whole sectors, and with an end in the midst of one
	for n := range 65 {
		d := sized(n, 0)
		free := bytes.Clone(d.Slots[1])
		for k := 0; k < n; k += 8 {
			checkError(t, finishing(false), d, api.ErrLate)
			d = done(t, d, writing(false, 0))
			copy(free[k:k+8], slot(bytes.Repeat([]byte{200}, n), 0)[k:])
			want := with(sized(n, 0), func(d *api.Device) { d.Slots[1], d.Done = free, k+8 })
			if text(d) != text(want) {
				t.Fatalf("Size %d, after %d bytes: %v, want %v", n, k, d, want)
			}
		}
		checkError(t, writing(false, 0), d, api.ErrLate)
		checkError(t, writing(true, 8), d, api.ErrLate)
		done(t, d, finishing(false), crashing(), booting(), confirming())
	}
}

func TestWriteLate(t *testing.T) { // P10.3: not Busy, or all is written
	for _, d := range []api.Device{settled(), ready(), trying(3, 0), trying(2, 1), turned(settled()), busy(32), turned(busy(32)), last(busy(32)), sized(0, 0), sized(1, 8), sized(8, 8), sized(9, 16), sized(64, 64), sized(57, 64)} {
		for _, keep := range []int{0, 3, 8, -1, math.MinInt, math.MaxInt} {
			checkError(t, writing(false, keep), d, api.ErrLate)
			checkError(t, writing(true, keep), d, api.ErrLate)
		}
	}
	for _, d := range []api.Device{busy(24), sized(1, 0), sized(8, 0), sized(9, 8), sized(57, 56), sized(64, 56)} {
		done(t, d, writing(false, 0))
		done(t, d, writing(true, 8))
	}
}

func TestTornWrite(t *testing.T) { // P10.3: no byte, some, all of a sector, fewer than none and more than all
	for _, turn := range []func(api.Device) api.Device{own, turned, swapped, last} {
		for n := 0; n < 32; n += 8 {
			for _, c := range []struct{ keep, kept int }{
				{0, 0}, {1, 1}, {2, 2}, {3, 3}, {4, 4}, {5, 5}, {6, 6}, {7, 7}, {8, 8}, {9, 8}, {16, 8}, {64, 8}, {1000, 8}, {math.MaxInt, 8}, {math.MaxInt - 3, 8}, {-1, 0}, {-8, 0}, {math.MinInt, 0}, {math.MinInt + 8, 0}, {1<<32 + 3, 8},
			} {
				want := busy(n)
				copy(want.Slots[1][n:n+c.kept], slot(newImage(), 0)[n:])
				check(t, writing(true, c.keep), turn(busy(n)), down(turn(want)), api.OK)
				heard := with(turn(busy(n)), func(d *api.Device) { d.Got = pieces(upgrade()) }) // what was heard is gone
				check(t, writing(true, c.keep), heard, down(turn(want)), api.OK)
			}
		}
	}
}

func TestFinish(t *testing.T) { // P10.3: torn and not
	want := trying(3, 0)
	want.Copies = [2]api.Copy{{OK: true, R: tested(3)}, {OK: true, R: emptied()}}
	want.Copies[0].R.Gen = 9
	torn := down(want)
	torn.Copies[0] = api.Copy{}
	for _, turn := range []func(api.Device) api.Device{own, turned, swapped} {
		check(t, finishing(false), turn(busy(32)), turn(want), api.OK)
		check(t, finishing(true), turn(busy(32)), turn(torn), api.OK)
		heard := func(d api.Device) api.Device {
			return with(d, func(d *api.Device) { d.Got = pieces(upgrade())[1:] })
		}
		check(t, finishing(false), heard(turn(busy(32))), heard(turn(want)), api.OK)
		check(t, finishing(true), heard(turn(busy(32))), turn(torn), api.OK)
	}
	d := done(t, busy(32), finishing(true), booting()) // it goes on as before
	if d.Running != 0 || reading(d) != emptied() {
		t.Errorf("after a torn Finish: %v", d)
	}
}

func TestFinishLate(t *testing.T) { // P10.3: not Busy, or not all is written; before the error of record.Write
	for _, d := range []api.Device{settled(), ready(), trying(3, 0), trying(2, 1), busy(0), busy(8), busy(16), busy(24), turned(busy(24)), sized(1, 0), sized(8, 0), sized(9, 8), sized(64, 56)} {
		for _, torn := range []bool{false, true} {
			checkError(t, finishing(torn), d, api.ErrLate)
			checkError(t, finishing(torn), last(d), api.ErrLate)
		}
	}
	for _, d := range []api.Device{busy(32), sized(0, 0), sized(1, 8), sized(8, 8), sized(9, 16), sized(64, 64)} {
		done(t, d, finishing(false))
		done(t, d, finishing(true))
	}
}

func TestConfirm(t *testing.T) { // P10.4
	for tries := range 4 {
		want := trying(tries, 1)
		want.Copies[0] = api.Copy{OK: true, R: api.Record{Gen: 9, Active: 1, Floor: 7, In: tested(0).In}}
		for _, turn := range []func(api.Device) api.Device{own, turned, swapped} {
			check(t, confirming(), turn(trying(tries, 1)), turn(want), api.OK)
			heard := func(d api.Device) api.Device {
				return with(d, func(d *api.Device) { d.Got = pieces(upgrade())[1:] })
			}
			check(t, confirming(), heard(turn(trying(tries, 1))), heard(turn(want)), api.OK)
			checkError(t, confirming(), turn(want), api.ErrLate) // once only
			checkError(t, confirming(), turn(trying(tries, 0)), api.ErrLate)
			checkError(t, confirming(), last(turn(trying(tries, 0))), api.ErrLate) // before the ErrRange of record.Write
		}
	}
	for _, d := range []api.Device{settled(), ready(), busy(0), busy(32), turned(settled()), last(settled())} {
		checkError(t, confirming(), d, api.ErrLate)
	}
}

func TestCrash(t *testing.T) { // P10.4
	for _, d := range fine() {
		if !d.Up {
			checkError(t, crashing(), d, api.ErrLate)
			continue
		}
		check(t, crashing(), d, down(d), api.OK)
		heard := with(d, func(d *api.Device) { d.Got = pieces(upgrade()) })
		check(t, crashing(), heard, down(d), api.OK)
		checkError(t, crashing(), down(d), api.ErrLate) // once only
	}
}

func TestBoot(t *testing.T) { // P10.4: with every number of Tries
	for _, turn := range []func(api.Device) api.Device{own, turned, swapped} {
		check(t, booting(), down(turn(settled())), turn(settled()), api.OK)
		for tries := 1; tries <= 3; tries++ {
			want := trying(tries, 1)
			want.Copies[0] = api.Copy{OK: true, R: tested(tries - 1)}
			want.Copies[0].R.Gen = 9
			check(t, booting(), down(turn(trying(tries, 0))), turn(want), api.OK)
			checkError(t, booting(), turn(want), api.ErrLate)
		}
		want := trying(0, 0)
		want.Copies[0] = api.Copy{OK: true, R: tested(0)}
		want.Copies[0].R.Gen, want.Copies[0].R.Trying = 9, false
		check(t, booting(), down(turn(trying(0, 0))), turn(want), api.OK)
	}
	check(t, booting(), down(busy(16)), with(busy(16), func(d *api.Device) { d.Busy, d.Job, d.Done = false, api.Patch{}, 0 }), api.OK)
	for _, d := range fine() {
		if d.Up {
			checkError(t, booting(), d, api.ErrLate)
		}
	}
}

func TestTriedThreeTimes(t *testing.T) { // P10.4: what is never confirmed is not tried again
	for _, turn := range []func(api.Device) api.Device{own, turned} {
		d := done(t, turn(busy(32)), finishing(false))
		old := d.Running
		for n := range 8 {
			d = done(t, d, crashing(), booting())
			if tried := d.Running != old; tried != (n < 3) {
				t.Errorf("start %d: slot %d runs", n, d.Running)
			}
		}
		if r := reading(d); r.Trying || r.Active != old || r.Floor != 4 {
			t.Errorf("at last: %v", d)
		}
	}
}

// whole lets a device install b as version to, with its chunks in this order, and returns it when b is confirmed.
func whole(t *testing.T, d api.Device, to int, b []byte, order func([]api.Chunk) []api.Chunk) api.Device {
	t.Helper()
	r := reading(d)
	good := bytes.Clone(d.Slots[r.Active])
	p, e := patch.Make(r.In[r.Active].Version, to, good[:r.In[r.Active].Size], b)
	if e != api.OK {
		t.Fatalf("Make: %d", e)
	}
	for _, c := range order(pieces(p)) {
		d = done(t, d, hearing(c))
	}
	d = done(t, d, opening())
	for range (len(b) + 7) / 8 {
		checkError(t, finishing(false), d, api.ErrLate)
		d = done(t, d, writing(false, 0))
	}
	checkError(t, writing(false, 0), d, api.ErrLate)
	d = done(t, d, finishing(false), crashing(), booting())
	if d.Running == r.Active || reading(d).Active != r.Active {
		t.Fatalf("the new version is not tried: %v", d)
	}
	d = done(t, d, confirming())
	in := api.Info{Version: to, Size: len(b), Sum: sum.Of(b)}
	if after := reading(d); after.Active != d.Running || after.In[d.Running] != in || after.Floor != to || after.Trying || !bytes.Equal(d.Slots[d.Running][:len(b)], b) {
		t.Fatalf("%d bytes to version %d: %v", len(b), to, d)
	}
	if !bytes.Equal(d.Slots[r.Active], good) {
		t.Fatalf("the slot that was running has changed")
	}
	return d
}

func TestWholeInstallation(t *testing.T) { // P10.2 to P10.4: chunks heard in some order, opened, written sector by sector, finished, started, confirmed
	next := numbers(1)
	orders := []func([]api.Chunk) []api.Chunk{
		func(l []api.Chunk) []api.Chunk { return l },
		func(l []api.Chunk) []api.Chunk {
			l = slices.Clone(l)
			slices.Reverse(l)
			return l
		},
		func(l []api.Chunk) []api.Chunk { return shuffled(l, next) },
		func(l []api.Chunk) []api.Chunk { return shuffled(slices.Repeat(l, 3), next) },
	}
	for _, order := range orders {
		d, e := New([]byte("abcdefgh"))
		if e != api.OK {
			t.Fatalf("New: %d", e)
		}
		for i, n := range []int{9, 64, 0, 1, 8, 63, 7, 56, 57, 64, 64} {
			b := make([]byte, n)
			for k := range b {
				b[k] = byte(next(4) + 'a')
			}
			d = whole(t, d, i+2, b, order)
			d = done(t, d, crashing(), booting())
			if d.Running != reading(d).Active {
				t.Fatalf("not confirmed: %v", d)
			}
		}
	}
}

func TestPowerFailsAnywhere(t *testing.T) { // P10.3, P10.4: whatever is torn, the image that ran runs again, byte for byte, and the installation succeeds afterwards
	p, l := upgrade(), pieces(upgrade())
	for _, start := range []api.Device{settled(), turned(settled()), swapped(settled())} {
		for stop := range len(l) + 7 {
			for keep := range 9 {
				d := start
				steps := []deed{}
				for _, c := range l {
					steps = append(steps, hearing(c))
				}
				steps = append(steps, opening(), writing(false, 0), writing(false, 0), writing(false, 0), writing(false, 0), finishing(false))
				steps = steps[:min(stop, len(steps))]
				d = done(t, d, steps...)
				switch {
				case d.Busy && d.Done < p.Size:
					d = done(t, d, writing(true, keep))
				case d.Busy && keep%2 == 0:
					d = done(t, d, finishing(true))
				default:
					d = done(t, d, crashing())
				}
				d = done(t, d, booting())
				if r := reading(d); r.Trying { // it was finished
					if d.Running == start.Running || !bytes.Equal(d.Slots[d.Running][:27], newImage()) {
						t.Fatalf("stopped at %d: %v", stop, d)
					}
					continue
				}
				if d.Running != start.Running || !bytes.Equal(d.Slots[d.Running], start.Slots[start.Running]) {
					t.Fatalf("stopped at %d: %v", stop, d)
				}
				whole(t, d, 7, newImage(), func(l []api.Chunk) []api.Chunk { return l })
			}
		}
	}
}

// someDevice returns a device after some deeds; its versions are few, so that patches often suit.
func someDevice(next func(int) int) api.Device {
	d, _ := New(someImage(next))
	for range next(30) {
		x, e := someDeed(d, next).do(d)
		if e == api.OK {
			d = x
		}
	}
	return d
}

func someImage(next func(int) int) []byte {
	b := make([]byte, []int{0, 1, 7, 8, 9, 20, 63, 64}[next(8)])
	for i := range b {
		b[i] = "abab\x00"[next(5)]
	}
	return b
}

// someDeed returns a deed that suits the device in most cases.
func someDeed(d api.Device, next func(int) int) deed {
	switch {
	case next(6) == 0:
		l := append(deeds(), writing(true, next(12)-2), hearing(someChunk(d, next)))
		return l[next(len(l))]
	case !d.Up:
		return booting()
	case d.Busy && d.Done < d.Job.Size:
		return writing(false, 0)
	case d.Busy:
		return finishing(next(4) == 0)
	case reading(d).Trying:
		return []deed{crashing(), confirming()}[next(2)]
	case len(d.Got) > 0 && len(d.Got) == d.Got[0].Of && next(4) > 0:
		return opening()
	}
	return hearing(someChunk(d, next))
}

// someChunk returns a chunk of a patch from the Active version, in most cases; those that were not heard yet come first.
func someChunk(d api.Device, next func(int) int) api.Chunk {
	r := reading(d)
	in := r.In[r.Active]
	from, to := in.Version, min(30, r.Floor+next(3))
	switch next(10) {
	case 0:
		from = 1 + next(4)
	case 1:
		to = 1 + next(4)
	}
	b := bytes.Repeat([]byte("ab"), 4)
	p, e := patch.Make(from, to, d.Slots[r.Active][:in.Size], b[:next(9)])
	if e != api.OK {
		return api.Chunk{}
	}
	l := pieces(p)
	if len(d.Got) < len(l) && next(8) > 0 {
		return l[len(d.Got)]
	}
	return l[next(len(l))]
}

// spoil changes a device in one field, so that it is not valid any more in most cases.
func spoil(d *api.Device, next func(int) int) {
	odd := []int{0, 1, 2, -1, 7, 8, 9, 16, 64, 65, 72, math.MaxInt, math.MinInt}
	x, k := odd[next(len(odd))], next(2)
	few := []func(){
		func() { d.Slots[k] = slot(nil, 0)[:max(0, min(64, x))] },
		func() { d.Slots[k] = append(d.Slots[k], 1) },
		func() { d.Slots[k][next(len(d.Slots[k])+1)%max(1, len(d.Slots[k]))]++ },
		func() { d.Copies[k].OK = !d.Copies[k].OK },
		func() { d.Copies[k] = api.Copy{} },
		func() { d.Copies[k].R.Gen = []int{0, 1, 1000000, 1000001}[next(4)] },
		func() { d.Copies[k].R.In[next(2)].Version = x },
		func() { d.Copies[k].R.In[next(2)].Size = x },
		func() { d.Copies[k].R.Active = x },
		func() { d.Copies[k].R.Floor = 1 + next(4) },
		func() { d.Copies[k].R.Trying = !d.Copies[k].R.Trying },
		func() { d.Up = !d.Up },
		func() { d.Running = x },
		func() { d.Running = 1 - d.Running },
		func() { d.Got = append(d.Got, api.Chunk{From: 1, To: 2, N: next(2), Of: 1, Data: []byte{1}}) },
		func() { d.Got = pieces(upgrade()) },
		func() { d.Busy = !d.Busy },
		func() { d.Done = x },
		func() { d.Done = 8 * next(9) },
		func() { d.Job.To = x },
		func() { d.Job.From = x },
		func() { d.Job.Size = x },
		func() { d.Job.New++ },
		func() { d.Job.Ops = nil },
		func() { d.Job = api.Patch{} },
	}
	if len(d.Slots[k]) == 0 {
		few = few[3:]
	}
	few[next(len(few))]()
}

func TestSomeDevices(t *testing.T) { // P10.1 to P10.4: all functions return what the slow ones do; P1: no panic
	next := numbers(2)
	counts := map[string]int{}
	for range 20000 {
		d := someDevice(next)
		for range max(0, next(5)-2) {
			spoil(&d, next)
		}
		was := text(d)
		want := slowCheck(d)
		if e := Check(d); e != want {
			t.Fatalf("Check(%v) = %d, want %d", d, e, want)
		}
		counts[fmt.Sprintf("Check %d", want)]++
		for _, f := range append(deeds(), hearing(someChunk(wellFormed(d), next)), writing(true, next(14)-3)) {
			x, e := f.slow(d)
			check(t, f, d, x, e)
			counts[fmt.Sprintf("%s %d", strings.Fields(f.name)[0], e)]++
			if e == api.OK {
				got, _ := f.do(d)
				checkAccepted(t, got)
			}
		}
		if text(d) != was {
			t.Fatalf("the argument has changed: %s is %v", was, d)
		}
		if t.Failed() {
			return
		}
	}
	for _, f := range []struct {
		name   string
		errors []api.Errno
	}{
		{"Check", []api.Errno{api.OK, api.ErrMany, api.ErrRange, api.ErrForm, api.ErrSum, api.ErrTorn}},
		{"Hear", []api.Errno{api.OK, api.ErrLate, api.ErrRange}},
		{"Open", []api.Errno{api.OK, api.ErrLate, api.ErrWho, api.ErrSum}},
		{"Write", []api.Errno{api.OK, api.ErrLate}},
		{"Finish", []api.Errno{api.OK, api.ErrLate}},
		{"Confirm", []api.Errno{api.OK, api.ErrLate}},
		{"Crash", []api.Errno{api.OK, api.ErrLate}},
		{"Boot", []api.Errno{api.OK, api.ErrLate}},
	} {
		for _, e := range f.errors {
			if n := counts[fmt.Sprintf("%s %d", f.name, e)]; n < 20 {
				t.Errorf("only %d times %s with %d", n, f.name, e)
			}
		}
	}
}

// wellFormed returns d, or a device that a chunk can be made for.
func wellFormed(d api.Device) api.Device {
	if _, _, e := record.Read(d.Copies); e != api.OK || len(d.Slots[0]) != 64 || len(d.Slots[1]) != 64 {
		return settled()
	}
	return d
}

// roomy returns a device whose lists all have spare capacity, and a look at all of their memory.
func roomy(d api.Device) (api.Device, func() string) {
	var rooms [][]byte
	room := func(b []byte) []byte {
		r := append(bytes.Clone(b), 91, 92, 93)
		rooms = append(rooms, r)
		return r[:len(b)]
	}
	d = own(d)
	for k := range d.Slots {
		d.Slots[k] = room(d.Slots[k])
	}
	got := append(d.Got, api.Chunk{N: 94}, api.Chunk{N: 95})
	d.Got = got[:len(got)-2]
	for i := range d.Got {
		d.Got[i].Data = room(d.Got[i].Data)
	}
	ops := append(d.Job.Ops, api.Op{At: 96}, api.Op{At: 97})
	d.Job.Ops = ops[:len(ops)-2]
	for i := range d.Job.Ops {
		d.Job.Ops[i].Data = room(d.Job.Ops[i].Data)
	}
	return d, func() string { return fmt.Sprint(rooms, got, ops, text(d)) }
}

func TestArgumentsAreOnlyRead(t *testing.T) { // P2: neither lists nor their spare capacity
	for _, start := range append(fine(), with(busy(16), func(d *api.Device) { d.Got = pieces(upgrade()) }), with(settled(), func(d *api.Device) { d.Slots[1] = nil })) {
		d, look := roomy(start)
		data := append(bytes.Clone(pieces(upgrade())[1].Data), 98, 99)
		c := pieces(upgrade())[1]
		c.Data = data[:16]
		was, wasData := look(), bytes.Clone(data)
		Check(d)
		Same(d, d)
		for _, f := range append(deeds(), hearing(c), writing(true, 8)) {
			f.do(d)
			if look() != was || !bytes.Equal(data, wasData) {
				t.Fatalf("%s has changed its argument: %s is %s", f.name, was, look())
			}
		}
	}
	image := append(oldImage(), 98, 99)
	New(image[:20])
	if !bytes.Equal(image, append(oldImage(), 98, 99)) {
		t.Errorf("New has changed its argument: %v", image)
	}
}

// lists returns all lists of bytes of a device, with their spare capacity.
func lists(d api.Device) [][]byte {
	l := [][]byte{d.Slots[0], d.Slots[1]}
	for _, c := range d.Got {
		l = append(l, c.Data)
	}
	for _, o := range d.Job.Ops {
		l = append(l, o.Data)
	}
	for i := range l {
		l[i] = l[i][:cap(l[i])]
	}
	return l
}

// scribble overwrites all memory of a device.
func scribble(d api.Device) {
	for _, b := range lists(d) {
		for i := range b {
			b[i] += 101
		}
	}
	for i := range d.Got {
		d.Got[i] = api.Chunk{N: 77}
	}
	for i := range d.Job.Ops {
		d.Job.Ops[i] = api.Op{At: 77}
	}
}

// checkApart says whether no two lists of a device share memory.
func checkApart(t *testing.T, name string, d api.Device) {
	t.Helper()
	for i, b := range lists(d) {
		for k := range b {
			b[k] = byte(i)
		}
	}
	for i, b := range lists(d) {
		if slices.ContainsFunc(b, func(x byte) bool { return x != byte(i) }) {
			t.Errorf("%s: list %d shares memory with another one", name, i)
		}
	}
}

func TestResultsAreNew(t *testing.T) { // P2: what is returned does not change if an argument's memory does
	heard := with(busy(16), func(d *api.Device) { d.Got = pieces(upgrade()) })
	ended := with(busy(32), func(d *api.Device) { d.Got = pieces(upgrade()) })
	tried := with(trying(2, 1), func(d *api.Device) { d.Got = pieces(upgrade()) })
	some := with(settled(), func(d *api.Device) { d.Got = pieces(upgrade())[:2] })
	good := 0
	for _, start := range append(fine(), heard, ended, tried, some) {
		l := pieces(upgrade())
		for _, f := range append(deeds(), hearing(l[1]), hearing(l[2])) {
			d := own(start)
			got, e := f.do(d)
			if e != api.OK {
				continue
			}
			good++
			was := text(got)
			scribble(d)
			for _, c := range l {
				for i := range c.Data {
					c.Data[i] += 101
				}
			}
			if text(got) != was {
				t.Errorf("%s: the result was %s, and is %v", f.name, was, got)
			}
			for _, c := range l {
				for i := range c.Data {
					c.Data[i] -= 101
				}
			}
			checkApart(t, f.name, got)
		}
	}
	if good < 100 {
		t.Errorf("only %d results", good)
	}
	b := oldImage()
	d, _ := New(b)
	was := text(d)
	b[0]++
	if text(d) != was {
		t.Errorf("New keeps its argument")
	}
	checkApart(t, "New", d)
}

func TestResultsDoNotTouchArguments(t *testing.T) { // P2: the argument does not change if the result's memory does
	for _, start := range fine() {
		for _, f := range deeds() {
			d := own(start)
			if got, e := f.do(d); e == api.OK {
				scribble(got)
			}
			if text(d) != text(start) {
				t.Errorf("%s: the argument was %v, and is %v", f.name, start, d)
			}
		}
	}
}

func TestOtherSlotStays(t *testing.T) { // P10.2 to P10.4: a slot that is not written to stays as it was
	for _, d := range fine() {
		for _, f := range deeds() {
			got, e := f.do(d)
			if e != api.OK {
				continue
			}
			for k := range 2 {
				writes := strings.HasPrefix(f.name, "Write") && k != reading(d).Active
				if !writes && !bytes.Equal(got.Slots[k], d.Slots[k]) {
					t.Errorf("%s: slot %d was %v, and is %v", f.name, k, d.Slots[k], got.Slots[k])
				}
			}
		}
	}
}

func TestOnlyArgumentsCount(t *testing.T) { // P1: not what was called before
	next := numbers(3)
	for range 300 {
		d := someDevice(next)
		for _, f := range deeds() {
			x, e := f.do(d)
			for range 3 {
				y := someDevice(next)
				someDeed(y, next).do(y)
			}
			check(t, f, own(d), x, e)
		}
	}
}

func TestManyChunks(t *testing.T) { // P1: a list of chunks of any length
	d := with(settled(), func(d *api.Device) { d.Got = slices.Repeat(pieces(upgrade())[:1], 100000) })
	checkRefused(t, d, api.ErrForm)
	d = with(settled(), func(d *api.Device) {
		d.Got = nil
		for n := range 52 {
			d.Got = append(d.Got, api.Chunk{From: 5, To: 7, N: n, Of: 52, Data: bytes.Repeat([]byte{1, 2}, 8)})
		}
	})
	checkAccepted(t, d)
	_, want := chunk.Join(d.Got)
	checkError(t, opening(), d, want)
}
