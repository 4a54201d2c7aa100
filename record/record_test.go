package record

import (
	"math"
	"testing"

	"cobbler/api"
)

// numbers returns a source of numbers below a limit; they look random and are the same each time.
func numbers(seed uint64) func(int) int {
	return func(limit int) int {
		seed = seed*6364136223846793005 + 1442695040888963407
		return int(seed >> 33 % uint64(limit))
	}
}

// settled returns a record with version 5 in slot 0, which is Active, and version 7 in slot 1, which is not tried.
func settled() api.Record {
	return api.Record{Gen: 8, Floor: 4, In: [2]api.Info{{Version: 5, Size: 30, Sum: 500}, {Version: 7, Size: 40, Sum: 700}}}
}

// trying returns the same record, but slot 1 is tried, as many times as tries says.
func trying(tries int) api.Record {
	r := settled()
	r.Trying, r.Tries = true, tries
	return r
}

// turned returns the record with the slots exchanged.
func turned(r api.Record) api.Record {
	r.Active = 1 - r.Active
	r.In[0], r.In[1] = r.In[1], r.In[0]
	return r
}

// with returns r after a change.
func with(r api.Record, change func(*api.Record)) api.Record {
	change(&r)
	return r
}

// at returns r with another Gen.
func at(gen int, r api.Record) api.Record {
	r.Gen = gen
	return r
}

func intact(r api.Record) api.Copy { return api.Copy{OK: true, R: r} }

func copies(a, b api.Copy) [2]api.Copy { return [2]api.Copy{a, b} }

// torn returns a copy that is not OK.
func torn() api.Copy { return api.Copy{} }

// extremes are values that no field may have.
func extremes() []int {
	return []int{-1, -2, -64, 1000001, 1000002, math.MaxInt32, math.MinInt32, 1 << 32, 1<<32 + 1, 1<<32 + 5, math.MaxInt, math.MaxInt - 1, math.MinInt, math.MinInt + 1}
}

// slowCheck goes through the conditions of P9.1 one by one.
func slowCheck(r api.Record) api.Errno {
	for _, x := range [][3]int{{1, r.Gen, 1000000}, {0, r.Active, 1}, {0, r.Tries, 3}, {1, r.Floor, 30}} {
		if x[1] < x[0] || x[1] > x[2] {
			return api.ErrRange
		}
	}
	for k := range 2 {
		for _, x := range [][2]int{{r.In[k].Version, 30}, {r.In[k].Size, 64}, {r.In[k].Sum, 65535}} {
			if x[0] < 0 || x[0] > x[1] {
				return api.ErrRange
			}
		}
		if r.In[k].Version == 0 && (r.In[k].Size != 0 || r.In[k].Sum != 0) {
			return api.ErrForm
		}
	}
	active, tried := r.In[0], r.In[1]
	if r.Active == 1 {
		active, tried = r.In[1], r.In[0]
	}
	switch {
	case active.Version == 0:
		return api.ErrForm
	case r.Trying && tried.Version == 0:
		return api.ErrForm
	case r.Trying && tried.Version < r.Floor:
		return api.ErrForm
	case !r.Trying && r.Tries != 0:
		return api.ErrForm
	case active.Version < r.Floor:
		return api.ErrForm
	}
	return api.OK
}

// slowRead goes through the copies in order and keeps the best one so far; torn ones count by OK alone.
func slowRead(l [2]api.Copy) (api.Record, int, api.Errno) {
	best := -1
	for k, c := range l {
		if !c.OK && (c.R.Gen != 0 || c.R.Active != 0 || c.R.Trying || c.R.Tries != 0 || c.R.Floor != 0 || c.R.In[0] != api.Info{} || c.R.In[1] != api.Info{}) {
			return api.Record{}, 0, api.ErrForm
		}
		if !c.OK {
			continue
		}
		if e := slowCheck(c.R); e != api.OK {
			return api.Record{}, 0, e
		}
		if best < 0 || c.R.Gen > l[best].R.Gen {
			best = k
		}
	}
	if best < 0 {
		return api.Record{}, 0, api.ErrTorn
	}
	return l[best].R, best, api.OK
}

// slowWrite builds both outcomes from parts.
func slowWrite(l [2]api.Copy, r api.Record, tear bool) ([2]api.Copy, api.Errno) {
	old, k, e := slowRead(l)
	if e != api.OK {
		return [2]api.Copy{}, e
	}
	r = at(old.Gen+1, r)
	if e := slowCheck(r); e != api.OK {
		return [2]api.Copy{}, e
	}
	stored := intact(r)
	if tear {
		stored = torn()
	}
	if k == 0 {
		return copies(l[0], stored), api.OK
	}
	return copies(stored, l[1]), api.OK
}

// slowStart has one line for each case of P9.3.
func slowStart(r api.Record) (int, api.Record, api.Errno) {
	e := slowCheck(r)
	switch {
	case e != api.OK:
		return 0, api.Record{}, e
	case !r.Trying:
		return r.Active, r, api.OK
	case r.Tries == 0:
		return r.Active, api.Record{Gen: r.Gen, Active: r.Active, Floor: r.Floor, In: r.In}, api.OK
	}
	return []int{1, 0}[r.Active], api.Record{Gen: r.Gen, Active: r.Active, Trying: true, Tries: r.Tries - 1, Floor: r.Floor, In: r.In}, api.OK
}

// slowConfirm writes the new record out.
func slowConfirm(r api.Record) (api.Record, api.Errno) {
	if e := slowCheck(r); e != api.OK {
		return api.Record{}, e
	}
	if !r.Trying {
		return api.Record{}, api.ErrLate
	}
	slot := []int{1, 0}[r.Active]
	floor := r.Floor
	if r.In[slot].Version > floor {
		floor = r.In[slot].Version
	}
	return api.Record{Gen: r.Gen, Active: slot, Floor: floor, In: r.In}, api.OK
}

func checkRecord(t *testing.T, r api.Record, want api.Errno) {
	t.Helper()
	if e := Check(r); e != want {
		t.Errorf("Check(%v) = %d, want %d", r, e, want)
	}
}

func checkCopies(t *testing.T, l [2]api.Copy, want api.Errno) {
	t.Helper()
	if e := Copies(l); e != want {
		t.Errorf("Copies(%v) = %d, want %d", l, e, want)
	}
}

func checkRead(t *testing.T, l [2]api.Copy, want api.Record, wantAt int, wantError api.Errno) {
	t.Helper()
	r, k, e := Read(l)
	if r != want || k != wantAt || e != wantError {
		t.Errorf("Read(%v) = %v, %d, %d, want %v, %d, %d", l, r, k, e, want, wantAt, wantError)
	}
}

func checkWrite(t *testing.T, l [2]api.Copy, r api.Record, tear bool, want [2]api.Copy, wantError api.Errno) {
	t.Helper()
	m, e := Write(l, r, tear)
	if m != want || e != wantError {
		t.Errorf("Write(%v, %v, %v) = %v, %d, want %v, %d", l, r, tear, m, e, want, wantError)
	}
}

func checkStart(t *testing.T, r api.Record, want int, wantRecord api.Record, wantError api.Errno) {
	t.Helper()
	slot, after, e := Start(r)
	if slot != want || after != wantRecord || e != wantError {
		t.Errorf("Start(%v) = %d, %v, %d, want %d, %v, %d", r, slot, after, e, want, wantRecord, wantError)
	}
}

func checkConfirm(t *testing.T, r, want api.Record, wantError api.Errno) {
	t.Helper()
	after, e := Confirm(r)
	if after != want || e != wantError {
		t.Errorf("Confirm(%v) = %v, %d, want %v, %d", r, after, e, want, wantError)
	}
}

// checkUnreadable says whether Copies, Read and Write all return the error of these copies, and nothing with it.
func checkUnreadable(t *testing.T, l [2]api.Copy, want api.Errno) {
	t.Helper()
	checkCopies(t, l, want)
	checkRead(t, l, api.Record{}, 0, want)
	for _, tear := range []bool{false, true} {
		checkWrite(t, l, settled(), tear, [2]api.Copy{}, want)
		checkWrite(t, l, api.Record{}, tear, [2]api.Copy{}, want) // though the record is refused too
		checkWrite(t, l, with(settled(), func(r *api.Record) { r.Tries = 1 }), tear, [2]api.Copy{}, want)
	}
}

// checkRefused says whether all functions return this error for a record, and nothing with it.
func checkRefused(t *testing.T, r api.Record, want api.Errno) {
	t.Helper()
	checkRecord(t, r, want)
	checkStart(t, r, 0, api.Record{}, want)
	checkConfirm(t, r, api.Record{}, want)
	for _, other := range []api.Copy{torn(), intact(settled()), intact(at(1, settled())), intact(at(1000000, settled()))} {
		checkUnreadable(t, copies(intact(r), other), want)
		checkUnreadable(t, copies(other, intact(r)), want)
	}
	checkUnreadable(t, copies(intact(r), intact(r)), want)
	if slowCheck(at(1, r)) == api.OK {
		return // nothing but its Gen, which Write replaces
	}
	for _, tear := range []bool{false, true} {
		checkWrite(t, copies(intact(settled()), torn()), r, tear, [2]api.Copy{}, slowCheck(at(9, r)))
		checkWrite(t, copies(torn(), intact(settled())), r, tear, [2]api.Copy{}, slowCheck(at(9, r)))
	}
}

// checkAccepted says whether no function returns an error for a record, but for Confirm if nothing is tried.
func checkAccepted(t *testing.T, r api.Record) {
	t.Helper()
	checkRecord(t, r, api.OK)
	for k := range 2 {
		l := copies(torn(), torn())
		l[k] = intact(r)
		checkCopies(t, l, api.OK)
		checkRead(t, l, r, k, api.OK)
		l[k] = intact(settled())
		want := l
		want[1-k] = intact(at(9, r))
		checkWrite(t, l, r, false, want, api.OK)
		checkWrite(t, l, r, true, l, api.OK)
	}
	slot, after, e := slowStart(r)
	checkStart(t, r, slot, after, e)
	after, e = slowConfirm(r)
	checkConfirm(t, r, after, e)
	if e != api.OK && e != api.ErrLate {
		t.Errorf("slowConfirm(%v): %d", r, e)
	}
}

// checkBounds tries values of one field around its bounds and far beyond them.
func checkBounds(t *testing.T, r api.Record, least, most int, set func(*api.Record, int)) {
	t.Helper()
	for _, n := range []int{least, least + 1, most - 1, most} {
		checkAccepted(t, with(r, func(r *api.Record) { set(r, n) }))
	}
	for _, n := range append(extremes(), least-1, least-2, most+1, most+2, most+256) {
		checkRefused(t, with(r, func(r *api.Record) { set(r, n) }), api.ErrRange)
	}
}

func TestCheck(t *testing.T) { // P9.1
	for _, r := range []api.Record{settled(), trying(0), trying(1), trying(2), trying(3)} {
		checkAccepted(t, r)
		checkAccepted(t, turned(r))
	}
	first := api.Record{Gen: 1, Floor: 1, In: [2]api.Info{{Version: 1}}}
	checkAccepted(t, first)
	checkAccepted(t, turned(first))
	checkRefused(t, api.Record{}, api.ErrRange)
	checkRefused(t, api.Record{Gen: 1, Floor: 1}, api.ErrForm) // both slots are empty
	most := api.Info{Version: 30, Size: 64, Sum: 65535}
	checkAccepted(t, api.Record{Gen: 1000000, Active: 1, Trying: true, Tries: 3, Floor: 30, In: [2]api.Info{most, most}})
}

func TestNumbersAtTheirBounds(t *testing.T) { // P9.1: each number, at its bounds and beyond
	for _, r := range []api.Record{settled(), turned(settled()), trying(2), turned(trying(2))} {
		checkBounds(t, r, 1, 1000000, func(r *api.Record, n int) { r.Gen = n })
		for k := range 2 {
			checkBounds(t, r, 0, 64, func(r *api.Record, n int) { r.In[k].Size = n })
			checkBounds(t, r, 0, 65535, func(r *api.Record, n int) { r.In[k].Sum = n })
		}
		newest := with(r, func(r *api.Record) { r.In[0].Version, r.In[1].Version = 30, 30 })
		checkBounds(t, newest, 1, 30, func(r *api.Record, n int) { r.Floor = n })
		low := with(r, func(r *api.Record) { r.Floor = 1 })
		for k := range 2 {
			checkBounds(t, low, 1, 30, func(r *api.Record, n int) {
				if n == 0 { // an empty slot has rules of its own, see TestEmptySlots
					n = -1
				}
				r.In[k].Version = n
			})
		}
	}
	for _, r := range []api.Record{trying(0), turned(trying(0))} {
		checkBounds(t, r, 0, 3, func(r *api.Record, n int) { r.Tries = n })
	}
	for _, r := range []api.Record{settled(), turned(trying(1))} {
		checkBounds(t, r, 0, 1, func(r *api.Record, n int) { r.Active = n })
	}
}

func TestExtremesInSeveralFields(t *testing.T) { // P9.1: extremes in several fields at once
	for _, n := range extremes() {
		checkRefused(t, api.Record{Gen: n, Active: n, Trying: true, Tries: n, Floor: n, In: [2]api.Info{{Version: n, Size: n, Sum: n}, {Version: n, Size: n, Sum: n}}}, api.ErrRange)
		for k := range 2 {
			checkRefused(t, with(settled(), func(r *api.Record) { r.In[k] = api.Info{Version: n, Size: n, Sum: n} }), api.ErrRange)
		}
		checkRefused(t, with(trying(0), func(r *api.Record) { r.Active, r.Tries = n, n }), api.ErrRange)
	}
}

func TestEmptySlots(t *testing.T) { // P9.1: an empty Active slot; an empty other slot, Trying and not
	for _, r := range []api.Record{settled(), turned(settled())} {
		active, other := r.Active, 1-r.Active
		checkRefused(t, with(r, func(r *api.Record) { r.In[active] = api.Info{} }), api.ErrForm)
		checkRefused(t, with(r, func(r *api.Record) { r.In[active], r.Floor = api.Info{}, 1 }), api.ErrForm)
		checkAccepted(t, with(r, func(r *api.Record) { r.In[other] = api.Info{} }))
		checkRefused(t, with(r, func(r *api.Record) { r.In = [2]api.Info{} }), api.ErrForm)
		for tries := range 4 {
			start := with(r, func(r *api.Record) { r.Trying, r.Tries = true, tries })
			checkRefused(t, with(start, func(r *api.Record) { r.In[other] = api.Info{} }), api.ErrForm)
			checkRefused(t, with(start, func(r *api.Record) { r.In[other], r.Floor = api.Info{}, 1 }), api.ErrForm)
			checkRefused(t, with(start, func(r *api.Record) { r.In[active] = api.Info{} }), api.ErrForm)
		}
		for _, in := range []api.Info{{Size: 1}, {Sum: 1}, {Size: 64}, {Sum: 65535}, {Size: 1, Sum: 1}} { // empty, but not zero
			checkRefused(t, with(r, func(r *api.Record) { r.In[active] = in }), api.ErrForm)
			checkRefused(t, with(r, func(r *api.Record) { r.In[other] = in }), api.ErrForm)
		}
	}
}

func TestVersionsAndFloor(t *testing.T) { // P9.1: just at Floor and just below it, in either slot
	for _, start := range []api.Record{settled(), turned(settled()), trying(0), turned(trying(0)), trying(3), turned(trying(3))} {
		for floor := 1; floor <= 30; floor++ {
			r := with(start, func(r *api.Record) {
				r.Floor = floor
				r.In[0].Version, r.In[1].Version = floor, floor
			})
			active, other := r.Active, 1-r.Active
			checkAccepted(t, r)
			if floor == 1 {
				continue // below it a slot is empty, see TestEmptySlots
			}
			checkRefused(t, with(r, func(r *api.Record) { r.In[active].Version-- }), api.ErrForm)
			lower := with(r, func(r *api.Record) { r.In[other].Version-- })
			if r.Trying {
				checkRefused(t, lower, api.ErrForm)
			} else {
				checkAccepted(t, lower) // what was Active before may stay in its slot
			}
		}
	}
}

func TestTries(t *testing.T) { // P9.1: with and without Trying
	for tries := range 4 {
		for _, r := range []api.Record{trying(tries), turned(trying(tries))} {
			checkAccepted(t, r)
			r.Trying = false
			if tries == 0 {
				checkAccepted(t, r)
			} else {
				checkRefused(t, r, api.ErrForm)
			}
		}
	}
}

func TestOrderOfErrors(t *testing.T) { // P9.1, P3: two at once
	badSize, badForm := api.Info{Version: 5, Size: 65}, api.Info{Sum: 1}
	for _, c := range []struct {
		change func(*api.Record)
		want   api.Errno
	}{
		{func(r *api.Record) { r.In[0], r.In[1] = badForm, badSize }, api.ErrForm}, // slot 0 is checked first
		{func(r *api.Record) { r.In[0], r.In[1] = badSize, badForm }, api.ErrRange},
		{func(r *api.Record) { r.In[0] = api.Info{Size: 65} }, api.ErrRange}, // empty, but too long
		{func(r *api.Record) { r.In[0] = api.Info{Size: -1} }, api.ErrRange},
		{func(r *api.Record) { r.In[0] = api.Info{Sum: 65536} }, api.ErrRange},
		{func(r *api.Record) { r.In[1] = api.Info{Size: 1, Sum: -1} }, api.ErrRange},
		{func(r *api.Record) { r.In[0], r.Gen = badForm, 0 }, api.ErrRange},
		{func(r *api.Record) { r.In[0], r.Active = badForm, 2 }, api.ErrRange},
		{func(r *api.Record) { r.In[0], r.Tries = badForm, 4 }, api.ErrRange},
		{func(r *api.Record) { r.In[0], r.Floor = badForm, 0 }, api.ErrRange},
		{func(r *api.Record) { r.In[1], r.Floor = badForm, 31 }, api.ErrRange},
		{func(r *api.Record) { r.In[0], r.Tries = badForm, -1 }, api.ErrRange},
		{func(r *api.Record) { r.In[0], r.In[1] = api.Info{}, badSize }, api.ErrRange}, // a slot before the record as a whole
		{func(r *api.Record) { r.Tries, r.In[1] = 1, badSize }, api.ErrRange},
		{func(r *api.Record) { r.Floor, r.In[1] = 6, badSize }, api.ErrRange},
		{func(r *api.Record) { r.Trying, r.Floor, r.In[1] = true, 6, badSize }, api.ErrRange},
		{func(r *api.Record) { r.Trying, r.In[1] = true, api.Info{Size: 65} }, api.ErrRange},
		{func(r *api.Record) { r.Tries, r.Gen = 1, 1000001 }, api.ErrRange},
		{func(r *api.Record) { r.Floor, r.Gen = 6, 0 }, api.ErrRange},
		{func(r *api.Record) { r.In[0], r.Gen = api.Info{}, 0 }, api.ErrRange},
		{func(r *api.Record) { r.In[0], r.Active = api.Info{}, -1 }, api.ErrRange},
	} {
		checkRefused(t, with(settled(), c.change), c.want)
	}
}

// forms returns records of which most are not valid, with each field at and beyond its bounds, combined.
func forms(f func(api.Record)) {
	infos := []api.Info{{}, {Version: 1}, {Version: 2, Size: 64, Sum: 65535}, {Version: 30}, {Version: 31}, {Version: -1}, {Size: 1}, {Sum: 1}, {Version: 2, Size: 65}, {Version: 2, Sum: 65536}, {Size: -1}, {Sum: -1}}
	for _, gen := range []int{0, 1, 1000000, 1000001} {
		for active := -1; active <= 2; active++ {
			for tries := -1; tries <= 4; tries++ {
				for _, floor := range []int{0, 1, 2, 3, 30, 31} {
					for _, a := range infos {
						for _, b := range infos {
							for _, is := range []bool{false, true} {
								f(api.Record{Gen: gen, Active: active, Trying: is, Tries: tries, Floor: floor, In: [2]api.Info{a, b}})
							}
						}
					}
				}
			}
		}
	}
}

func TestAllForms(t *testing.T) { // P9.1, P9.3: every combination of few values for each field; P1: no panic
	counts := map[api.Errno]int{}
	forms(func(r api.Record) {
		want := slowCheck(r)
		counts[want]++
		checkRecord(t, r, want)
		slot, after, e := slowStart(r)
		checkStart(t, r, slot, after, e)
		after, e = slowConfirm(r)
		checkConfirm(t, r, after, e)
	})
	for _, e := range []api.Errno{api.OK, api.ErrRange, api.ErrForm} {
		if counts[e] < 100 {
			t.Errorf("only %d records with the error %d", counts[e], e)
		}
	}
}

// zeroBut returns records with one field that is not zero.
func zeroBut() []api.Record {
	return []api.Record{
		{Gen: 1}, {Active: 1}, {Trying: true}, {Tries: 1}, {Floor: 1}, {Gen: -1}, {Active: -1},
		{In: [2]api.Info{{Version: 1}, {}}}, {In: [2]api.Info{{Size: 1}, {}}}, {In: [2]api.Info{{Sum: 1}, {}}},
		{In: [2]api.Info{{}, {Version: 1}}}, {In: [2]api.Info{{}, {Size: 1}}}, {In: [2]api.Info{{}, {Sum: 1}}},
		{Gen: math.MaxInt}, {Floor: math.MinInt}, settled(), trying(3),
	}
}

func TestCopies(t *testing.T) { // P9.2: none, one or both are OK; one is not OK and not zero
	good := intact(settled())
	for _, l := range [][2]api.Copy{copies(good, torn()), copies(torn(), good), copies(good, good), copies(good, intact(trying(2)))} {
		checkCopies(t, l, api.OK)
	}
	checkUnreadable(t, copies(torn(), torn()), api.ErrTorn)
	for _, r := range zeroBut() {
		bad := api.Copy{R: r}
		for _, other := range []api.Copy{torn(), good, bad} {
			checkUnreadable(t, copies(bad, other), api.ErrForm)
			checkUnreadable(t, copies(other, bad), api.ErrForm)
		}
	}
}

func TestOrderOfCopies(t *testing.T) { // P9.2, P3: the error of the first copy; ErrTorn last
	range1 := intact(at(0, settled()))
	form1 := intact(with(settled(), func(r *api.Record) { r.Tries = 1 }))
	notZero := api.Copy{R: settled()}
	notZeroAtAll := api.Copy{R: at(0, settled())} // Check would say ErrRange, but it is not OK
	for _, form := range []api.Copy{form1, notZero, notZeroAtAll} {
		checkUnreadable(t, copies(range1, form), api.ErrRange)
		checkUnreadable(t, copies(form, range1), api.ErrForm)
		checkUnreadable(t, copies(form, torn()), api.ErrForm)
		checkUnreadable(t, copies(torn(), form), api.ErrForm)
	}
	checkUnreadable(t, copies(range1, torn()), api.ErrRange)
	checkUnreadable(t, copies(torn(), range1), api.ErrRange)
	checkUnreadable(t, copies(intact(api.Record{}), torn()), api.ErrRange) // OK, but zero
	checkUnreadable(t, copies(torn(), intact(api.Record{})), api.ErrRange)
}

func TestRead(t *testing.T) { // P9.2: like and unlike generations, the larger one first and last
	a, b := settled(), turned(trying(2))
	for _, r := range []api.Record{a, b} {
		checkRead(t, copies(intact(r), torn()), r, 0, api.OK)
		checkRead(t, copies(torn(), intact(r)), r, 1, api.OK)
		checkRead(t, copies(intact(r), intact(r)), r, 0, api.OK)
	}
	for _, gen := range []int{1, 2, 9, 499999, 999999} {
		for _, more := range []int{gen + 1, 1000000} {
			checkRead(t, copies(intact(at(gen, a)), intact(at(more, b))), at(more, b), 1, api.OK)
			checkRead(t, copies(intact(at(more, a)), intact(at(gen, b))), at(more, a), 0, api.OK)
		}
		checkRead(t, copies(intact(at(gen, a)), intact(at(gen, b))), at(gen, a), 0, api.OK)
		checkRead(t, copies(intact(at(gen, b)), intact(at(gen, a))), at(gen, b), 0, api.OK)
		checkRead(t, copies(torn(), intact(at(gen, a))), at(gen, a), 1, api.OK)
		checkRead(t, copies(intact(at(gen, a)), torn()), at(gen, a), 0, api.OK)
	}
}

func TestWrite(t *testing.T) { // P9.2: into either copy, torn and not
	a, b, r := settled(), turned(settled()), turned(trying(3))
	for _, c := range []struct {
		l    [2]api.Copy
		into int
		gen  int
	}{
		{copies(intact(at(5, a)), torn()), 1, 6},
		{copies(torn(), intact(at(5, a))), 0, 6},
		{copies(intact(at(5, a)), intact(at(4, b))), 1, 6},
		{copies(intact(at(5, a)), intact(at(6, b))), 0, 7},
		{copies(intact(at(5, a)), intact(at(5, b))), 1, 6},
		{copies(intact(at(1, a)), intact(at(999999, b))), 0, 1000000},
		{copies(intact(at(999999, a)), intact(at(1, b))), 1, 1000000},
		{copies(intact(at(1, a)), torn()), 1, 2},
	} {
		want := c.l
		for _, gen := range []int{0, -1, 1, 5, 6, 7, 1000000, 1000001, math.MaxInt, math.MinInt} { // Gen of r does not count
			want[c.into] = intact(at(c.gen, r))
			checkWrite(t, c.l, at(gen, r), false, want, api.OK)
			checkRead(t, want, at(c.gen, r), c.into, api.OK)
			want[c.into] = torn()
			checkWrite(t, c.l, at(gen, r), true, want, api.OK)
		}
	}
}

func TestWriteRefused(t *testing.T) { // P9.2: errors of the new record, torn or not
	for _, l := range [][2]api.Copy{copies(intact(settled()), torn()), copies(torn(), intact(settled())), copies(intact(settled()), intact(trying(1)))} {
		for _, tear := range []bool{false, true} {
			checkWrite(t, l, api.Record{}, tear, [2]api.Copy{}, api.ErrRange)
			checkWrite(t, l, with(settled(), func(r *api.Record) { r.Floor = 31 }), tear, [2]api.Copy{}, api.ErrRange)
			checkWrite(t, l, with(settled(), func(r *api.Record) { r.Active = -1 }), tear, [2]api.Copy{}, api.ErrRange)
			checkWrite(t, l, with(settled(), func(r *api.Record) { r.Tries = 1 }), tear, [2]api.Copy{}, api.ErrForm)
			checkWrite(t, l, with(settled(), func(r *api.Record) { r.In[0] = api.Info{} }), tear, [2]api.Copy{}, api.ErrForm)
			checkWrite(t, l, at(0, with(settled(), func(r *api.Record) { r.Tries = 1 })), tear, [2]api.Copy{}, api.ErrForm) // its Gen is replaced before
		}
	}
}

func TestWriteOnceMore(t *testing.T) { // P9.2: a record with the largest Gen
	last := at(1000000, settled())
	for _, l := range [][2]api.Copy{copies(intact(last), torn()), copies(torn(), intact(last)), copies(intact(last), intact(last)), copies(intact(settled()), intact(last)), copies(intact(last), intact(settled()))} {
		r, k, e := Read(l)
		if r != last || e != api.OK {
			t.Fatalf("Read(%v) = %v, %d, %d", l, r, k, e)
		}
		for _, tear := range []bool{false, true} {
			checkWrite(t, l, settled(), tear, [2]api.Copy{}, api.ErrRange)
			checkWrite(t, l, last, tear, [2]api.Copy{}, api.ErrRange)
			checkWrite(t, l, at(1, last), tear, [2]api.Copy{}, api.ErrRange)
			checkWrite(t, l, with(settled(), func(r *api.Record) { r.Tries = 1 }), tear, [2]api.Copy{}, api.ErrRange) // ErrForm would come later
		}
	}
	l := copies(intact(at(999999, settled())), torn())
	l, e := Write(l, trying(3), false)
	if e != api.OK {
		t.Fatalf("Write to the largest Gen: %d", e)
	}
	checkRead(t, l, at(1000000, trying(3)), 1, api.OK)
}

// someRecord returns a record that is valid in most cases.
func someRecord(next func(int) int) api.Record {
	r := api.Record{Gen: 1 + next(3), Active: next(2), Trying: next(2) == 0, Floor: 1 + next(3)}
	for k := range r.In {
		r.In[k] = api.Info{Version: r.Floor + next(3), Size: next(65), Sum: next(65536)}
	}
	if r.Trying {
		r.Tries = next(4)
	}
	switch next(24) {
	case 0:
		r.Gen = []int{0, 999999, 1000000, 1000001}[next(4)]
	case 1:
		r.In[next(2)] = api.Info{}
	case 2:
		r.In[next(2)].Version = next(4) - 1
	case 3:
		r.In[next(2)].Size = []int{-1, 65}[next(2)]
	case 4:
		r.Tries = next(6) - 1
	case 5:
		r.Floor = []int{0, 4, 30, 31}[next(4)]
	case 6:
		r.Active = next(4) - 1
	}
	return r
}

// someCopy returns a copy that is valid in most cases, and torn in some.
func someCopy(next func(int) int) api.Copy {
	switch next(16) {
	case 0, 1, 2, 3:
		return torn()
	case 4:
		return api.Copy{R: someRecord(next)}
	}
	return intact(someRecord(next))
}

func TestSomeCopies(t *testing.T) { // P9.2, P9.4; P1: no panic
	next := numbers(1)
	counts := map[api.Errno]int{}
	for range 300000 {
		l, r := copies(someCopy(next), someCopy(next)), someRecord(next)
		old, k, e := slowRead(l)
		counts[e]++
		checkCopies(t, l, e)
		checkRead(t, l, old, k, e)
		for _, tear := range []bool{false, true} {
			m, e := slowWrite(l, r, tear)
			checkWrite(t, l, r, tear, m, e)
			if e == api.OK && tear {
				m, _ := Write(l, r, tear)
				checkRead(t, m, old, k, api.OK)
			}
		}
	}
	for _, e := range []api.Errno{api.OK, api.ErrRange, api.ErrForm, api.ErrTorn} {
		if counts[e] < 1000 {
			t.Errorf("only %d copies with the error %d", counts[e], e)
		}
	}
}

func TestStart(t *testing.T) { // P9.3: with every number of Tries
	checkStart(t, settled(), 0, settled(), api.OK)
	checkStart(t, turned(settled()), 1, turned(settled()), api.OK)
	checkStart(t, trying(0), 0, settled(), api.OK)
	checkStart(t, turned(trying(0)), 1, turned(settled()), api.OK)
	for tries := 1; tries <= 3; tries++ {
		checkStart(t, trying(tries), 1, trying(tries-1), api.OK)
		checkStart(t, turned(trying(tries)), 0, turned(trying(tries-1)), api.OK)
	}
	empty := with(settled(), func(r *api.Record) { r.In[1] = api.Info{} })
	checkStart(t, empty, 0, empty, api.OK)
	last := at(1000000, trying(1))
	checkStart(t, last, 1, at(1000000, trying(0)), api.OK) // Gen stays
}

func TestTriedThreeTimes(t *testing.T) { // P9.3: the example of the chapter
	for _, start := range []api.Record{settled(), turned(settled())} {
		l := copies(intact(start), torn())
		r := with(start, func(r *api.Record) { r.Trying, r.Tries = true, api.MaxTries })
		l, e := Write(l, r, false)
		if e != api.OK {
			t.Fatalf("Write: %d", e)
		}
		tried := 0
		for n := range 10 {
			r, _, e := Read(l)
			if e != api.OK {
				t.Fatalf("Read: %d", e)
			}
			slot, after, e := Start(r)
			if e != api.OK {
				t.Fatalf("Start(%v): %d", r, e)
			}
			if slot != start.Active {
				tried++
			}
			if wasTried := slot != start.Active; wasTried != (n < 3) {
				t.Errorf("start %d: slot %d", n, slot)
			}
			if l, e = Write(l, after, false); e != api.OK {
				t.Fatalf("Write(%v): %d", after, e)
			}
		}
		r, _, _ = Read(l)
		if tried != 3 || r != at(r.Gen, start) || r.Gen != start.Gen+11 {
			t.Errorf("tried %d times, then %v", tried, r)
		}
	}
}

func TestConfirm(t *testing.T) { // P9.3
	want := api.Record{Gen: 8, Active: 1, Floor: 7, In: settled().In}
	for tries := range 4 {
		checkConfirm(t, trying(tries), want, api.OK)
		checkConfirm(t, turned(trying(tries)), turned(want), api.OK)
	}
	checkConfirm(t, settled(), api.Record{}, api.ErrLate)
	checkConfirm(t, turned(settled()), api.Record{}, api.ErrLate)
	checkConfirm(t, want, api.Record{}, api.ErrLate) // once only
	checkConfirm(t, with(settled(), func(r *api.Record) { r.Tries = 1 }), api.Record{}, api.ErrForm)
	checkConfirm(t, at(0, settled()), api.Record{}, api.ErrRange) // before ErrLate
	checkConfirm(t, at(1000000, trying(1)), at(1000000, want), api.OK)
}

func TestConfirmAndFloor(t *testing.T) { // P9.3: a version below, at and above Floor
	for floor := 1; floor <= 30; floor++ {
		for version := 1; version <= 30; version++ {
			r := with(trying(1), func(r *api.Record) {
				r.Floor, r.In[0].Version, r.In[1].Version = floor, 30, version
			})
			want, wantError := api.Record{Gen: 8, Active: 1, Floor: version, In: r.In}, api.OK
			if version < floor {
				want, wantError = api.Record{}, api.ErrForm // it may not be tried at all
			}
			checkConfirm(t, r, want, wantError)
			if wantError == api.OK {
				want = turned(want)
			}
			checkConfirm(t, turned(r), want, wantError)
		}
	}
}

func TestResultsAreValid(t *testing.T) { // P9.3: what Start and Confirm return can be written; the Active version never falls below Floor
	next := numbers(2)
	for range 100000 {
		r := someRecord(next)
		if Check(r) != api.OK {
			continue
		}
		slot, after, _ := Start(r)
		checkRecord(t, after, api.OK)
		if r.In[slot].Version < r.Floor {
			t.Errorf("Start(%v): version %d in slot %d is below Floor", r, r.In[slot].Version, slot)
		}
		if sure, e := Confirm(r); e == api.OK {
			checkRecord(t, sure, api.OK)
			if sure.Floor < r.Floor || sure.Floor != sure.In[sure.Active].Version {
				t.Errorf("Confirm(%v) = %v", r, sure)
			}
		}
	}
}

func TestTornWriteLeavesTheRecord(t *testing.T) { // P9.4
	for _, r := range []api.Record{settled(), trying(0), turned(trying(3))} {
		for _, other := range []api.Copy{torn(), intact(at(7, trying(1))), intact(at(8, trying(1))), intact(at(9, trying(1)))} {
			for _, l := range [][2]api.Copy{copies(intact(r), other), copies(other, intact(r))} {
				old, k, _ := Read(l)
				for range 3 { // a torn write may follow another one
					m, e := Write(l, turned(settled()), true)
					if e != api.OK || m[k] != l[k] || m[1-k] != torn() {
						t.Errorf("Write(%v, .., true) = %v, %d", l, m, e)
					}
					checkRead(t, m, old, k, api.OK)
					l = m
				}
				want := l
				want[1-k] = intact(at(old.Gen+1, turned(settled())))
				checkWrite(t, l, turned(settled()), false, want, api.OK)
			}
		}
	}
}

func TestManyWrites(t *testing.T) { // P9.2, P9.4: Read returns what was written last without being torn
	next := numbers(3)
	for range 300 {
		last := at(1+next(100), settled())
		l := copies(intact(last), torn())
		if next(2) == 0 {
			l = copies(torn(), intact(last))
		}
		for range 200 {
			r := someRecord(next)
			tear := next(3) == 0
			m, e := Write(l, r, tear)
			want := slowCheck(at(last.Gen+1, r))
			if e != want {
				t.Fatalf("Write(%v, %v, %v): %d, want %d", l, r, tear, e, want)
			}
			if e != api.OK {
				continue
			}
			if !tear {
				last = at(last.Gen+1, r)
			}
			l = m
			if got, _, e := Read(l); got != last || e != api.OK {
				t.Fatalf("Read(%v) = %v, %d, want %v", l, got, e, last)
			}
		}
	}
}

func TestArgumentsAreOnlyRead(t *testing.T) { // P2
	next := numbers(4)
	for range 20000 {
		l, r := copies(someCopy(next), someCopy(next)), someRecord(next)
		wasList, wasRecord := l, r
		Check(r)
		Copies(l)
		Read(l)
		Write(l, r, false)
		Write(l, r, true)
		Start(r)
		Confirm(r)
		if l != wasList || r != wasRecord {
			t.Fatalf("arguments have changed: %v is %v, %v is %v", wasList, l, wasRecord, r)
		}
	}
}

func TestResultsAreNew(t *testing.T) { // P2: a change of a result is seen in no argument and in no other result
	l := copies(intact(settled()), intact(at(7, trying(1))))
	was := l
	m, _ := Write(l, trying(3), false)
	again, _ := Write(l, trying(3), false)
	m[0].R.In[0].Version, m[1].R.In[1].Size, m[1].OK = 29, 63, false
	read, _, _ := Read(l)
	read.In[0].Version = 29
	r := trying(2)
	_, after, _ := Start(r)
	sure, _ := Confirm(r)
	after.In[1].Sum, sure.In[1].Sum = 1, 2
	if l != was || r != trying(2) || again != copies(intact(settled()), intact(at(9, trying(3)))) {
		t.Errorf("%v, %v or %v has changed", l, r, again)
	}
}

func TestOnlyArgumentsCount(t *testing.T) { // P1: not what was called before
	next := numbers(5)
	for range 2000 {
		l, r := copies(someCopy(next), someCopy(next)), someRecord(next)
		wrote, e := Write(l, r, false)
		slot, after, f := Start(r)
		sure, g := Confirm(r)
		for range 3 {
			Write(copies(someCopy(next), someCopy(next)), someRecord(next), next(2) == 0)
			Start(someRecord(next))
			Confirm(someRecord(next))
		}
		checkWrite(t, l, r, false, wrote, e)
		checkStart(t, r, slot, after, f)
		checkConfirm(t, r, sure, g)
	}
}
