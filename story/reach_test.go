package story

import (
	"bytes"
	"fmt"
	"slices"
	"strings"
	"testing"

	"cobbler/api"
	"cobbler/world"
)

// play is a world that is reached from New, with what must be true of it: kept from the events alone, not read from the device.
type play struct {
	t       *testing.T
	l       [][]byte // the releases
	w       api.World
	good    int // the version that was confirmed last
	tried   int // the version that is to be tried, or is; 0: none
	tries   int // how often it will still be started
	job     int // the version that is being installed; 0: none
	running int // 0: none
}

func begin(t *testing.T, l [][]byte) *play {
	t.Helper()
	w, e := world.New(l)
	if e != api.OK {
		t.Fatalf("New of %v: %d", l, e)
	}
	p := &play{t: t, l: l, w: w, good: 1, running: 1}
	p.check()
	return p
}

// fork returns the play for another continuation.
func (p *play) fork() *play {
	q := *p
	return &q
}

// do lets an event happen, and returns its error.
func (p *play) do(x api.Happening) api.Errno {
	p.t.Helper()
	w, e := world.Do(p.w, x)
	if e == api.OK {
		p.follow(x)
		p.w = w
	}
	p.check()
	return e
}

// follow keeps what must be true after an event without an error; p.w is the world before it.
func (p *play) follow(x api.Happening) {
	switch x.Kind {
	case api.HOpen:
		p.job, p.tried, p.tries = p.w.D.Got[0].To, 0, 0
	case api.HFinish:
		p.tried, p.tries, p.job = p.job, api.MaxTries, 0
	case api.HConfirm:
		p.good, p.tried, p.tries = p.tried, 0, 0
	case api.HCrash, api.HTear, api.HTearRec:
		p.running, p.job = 0, 0
	case api.HBoot:
		p.start()
	}
}

// start keeps what must be true after a start.
func (p *play) start() {
	if p.tries > 0 {
		p.tries--
		p.running = p.tried
		return
	}
	p.running, p.tried = p.good, 0
}

// next returns the version that must be started next.
func (p *play) next() int {
	if p.tries > 0 {
		return p.tried
	}
	return p.good
}

// check says whether the running image is a release, byte for byte, whether some version runs after a restart, and whether neither is below what was confirmed.
func (p *play) check() {
	p.t.Helper()
	v, b, e := Runs(p.w)
	switch {
	case p.running == 0 && (v != 0 || len(b) != 0 || e != api.ErrLate):
		p.t.Fatalf("Runs of %v = %d, %v, %d, and the device is not Up", p.w, v, b, e)
	case p.running == 0:
	case v != p.running || v < p.good || e != api.OK:
		p.t.Fatalf("Runs of %v = %d, %d, want %d; confirmed: %d", p.w, v, e, p.running, p.good)
	case !bytes.Equal(b, p.l[v-1]):
		p.t.Fatalf("%v runs, which is not release %d: %v", b, v, p.w)
	}
	n, e := Next(p.w)
	if n != p.next() || n < p.good || e != api.OK {
		p.t.Fatalf("Next of %v = %d, %d, want %d; confirmed: %d", p.w, n, e, p.next(), p.good)
	}
	p.checkRestart(n)
}

// checkRestart says whether the version n, byte for byte, in fact runs after a restart.
func (p *play) checkRestart(n int) {
	p.t.Helper()
	w, e := p.w, api.OK
	if p.running != 0 {
		w, e = world.Do(w, of(api.HCrash, 0))
	}
	if e == api.OK {
		w, e = world.Do(w, of(api.HBoot, 0))
	}
	v, b, wrong := Runs(w)
	if e != api.OK || wrong != api.OK || v != n || !bytes.Equal(b, p.l[n-1]) {
		p.t.Fatalf("after a restart of %v version %d runs, %v, %d, %d, want %d", p.w, v, b, e, wrong, n)
	}
}

// must lets events happen that may not return an error.
func (p *play) must(l ...api.Happening) {
	p.t.Helper()
	for _, x := range l {
		if e := p.do(x); e != api.OK {
			p.t.Fatalf("event %v of %v: %d", x, p.w, e)
		}
	}
}

// may lets events happen that may return an error.
func (p *play) may(l ...api.Happening) {
	p.t.Helper()
	for _, x := range l {
		p.do(x)
	}
}

// refuses says whether an event returns this error, and has no effect.
func (p *play) refuses(x api.Happening, want api.Errno) {
	p.t.Helper()
	was := text(p.w)
	if e := p.do(x); e != want || text(p.w) != was {
		p.t.Fatalf("event %v of %s: %d, want %d", x, was, e, want)
	}
}

// runs says whether this version runs (0: none), and this one is next.
func (p *play) runs(now, next int) {
	p.t.Helper()
	checkStory(p.t, p.w, now, next)
}

// calm ends what is going on: nothing is installed or tried any more, and something runs.
func (p *play) calm() {
	p.t.Helper()
	if p.job != 0 {
		p.must(of(api.HCrash, 0))
	}
	for p.running == 0 || p.tried != 0 {
		if p.running != 0 {
			p.must(of(api.HCrash, 0))
		}
		p.must(of(api.HBoot, 0))
	}
}

// hear lets all chunks of the release n arrive: the next one is picked by order of those that are left; some arrive twice.
func (p *play) hear(n int, order func(int) int) {
	p.t.Helper()
	there := len(p.w.Net)
	p.must(of(api.HSend, n))
	if len(p.w.Net) == there {
		p.t.Fatalf("nothing was sent: %v", p.w)
	}
	for left := len(p.w.Net) - there; left > 0; left-- {
		k := there + order(left)
		if k%2 == 0 {
			p.must(of(api.HTwice, k))
		}
		p.must(of(api.HHear, k))
	}
}

// install lets all chunks of the release n arrive and nothing fail: its version is installed.
func (p *play) install(n int, order func(int) int) {
	p.t.Helper()
	p.hear(n, order)
	p.put(n)
}

// put installs the release n, which was received.
func (p *play) put(n int) {
	p.t.Helper()
	good := p.good
	p.must(of(api.HOpen, 0))
	p.runs(good, good)
	for range (len(p.l[n-1]) + api.SectorSize - 1) / api.SectorSize {
		p.refuses(of(api.HFinish, 0), api.ErrLate)
		p.must(of(api.HWrite, 0))
		p.runs(good, good)
	}
	p.refuses(of(api.HWrite, 0), api.ErrLate)
	p.must(of(api.HFinish, 0))
	p.runs(good, n)
	p.must(restart()...)
	p.runs(n, n)
	p.must(of(api.HConfirm, 0))
	p.runs(n, n)
	p.must(restart()...)
	p.runs(n, n)
}

func front(int) int { return 0 }

func back(left int) int { return left - 1 }

func middle(left int) int { return left / 2 }

func TestUndisturbed(t *testing.T) { // P12.2: from each version to each one that is not below it, in several orders
	for _, order := range []func(int) int{front, back, middle, numbers(2)} {
		for from := 1; from <= 5; from++ {
			for to := from; to <= 5; to++ {
				p := begin(t, releases())
				p.install(from, order)
				p.install(to, order)
			}
		}
	}
}

func TestAllVersions(t *testing.T) { // P12.2: one after the other, of many sizes, no bytes and the largest size among them
	next := numbers(3)
	for round := range 4 {
		var l [][]byte
		for i := range 30 {
			l = append(l, upTo([]int{0, 64, 1, 63, 8, 7, 9, 56, 57, 30}[(i+round)%10], next(256), next(7)))
		}
		p := begin(t, l)
		for n := 1; n <= 30; n++ {
			p.install(n, next)
			p.install(n, next)
		}
	}
}

func TestNoWayBack(t *testing.T) { // P12.2: a release below what was confirmed is refused, though all of it arrives
	for from := 2; from <= 5; from++ {
		for to := 1; to < from; to++ {
			p := begin(t, releases())
			p.install(from, front)
			p.hear(to, front)
			p.refuses(of(api.HOpen, 0), api.ErrWho)
			p.runs(from, from)
			p.install(from, front)
		}
	}
}

func TestLostChunks(t *testing.T) { // P12.2: each chunk is lost once, and the release is installed after it was sent again
	for lost := range 5 {
		p := begin(t, releases())
		p.must(of(api.HSend, 4), of(api.HLose, lost))
		for range 4 {
			p.refuses(of(api.HOpen, 0), api.ErrLate)
			p.must(of(api.HHear, 0))
		}
		p.refuses(of(api.HHear, 0), api.ErrWho)
		p.refuses(of(api.HOpen, 0), api.ErrLate)
		q := p.fork()
		q.must(of(api.HSend, 4), of(api.HHear, lost))
		q.put(4)
		p.must(restart()...) // what was received is gone
		p.must(of(api.HSend, 4), of(api.HHear, lost))
		p.refuses(of(api.HOpen, 0), api.ErrLate)
		p.install(4, back)
	}
}

func TestOtherChunksBetween(t *testing.T) { // P12.2: chunks of another patch displace those that came before
	p := begin(t, releases())
	p.must(of(api.HSend, 2), of(api.HSend, 4))
	p.must(of(api.HTwice, 0), of(api.HTwice, 1), of(api.HTwice, 3), of(api.HTwice, 2))
	p.refuses(of(api.HOpen, 0), api.ErrLate)
	p.must(of(api.HHear, 0), of(api.HHear, 0))
	p.put(2)
	p.must(of(api.HLose, 0), of(api.HHear, 4), of(api.HHear, 3), of(api.HHear, 2), of(api.HHear, 1), of(api.HHear, 0)) // from version 1
	p.refuses(of(api.HOpen, 0), api.ErrWho)
	p.install(4, middle)
}

func TestHeardWhileTrying(t *testing.T) { // P12.2: what is sent while a version is tried is a patch from the one that is Active
	p := begin(t, releases())
	p.must(sending(p.w, 2)...)
	p.must(restart()...)
	p.hear(5, back)
	p.refuses(of(api.HOpen, 0), api.ErrLate)
	p.runs(2, 2)
	q := p.fork()
	q.must(of(api.HConfirm, 0))
	q.refuses(of(api.HOpen, 0), api.ErrWho)
	q.install(5, front)
	p.calm()
	p.runs(1, 1)
	p.hear(5, front)
	p.put(5)
}

func TestUnconfirmed(t *testing.T) { // P12.2: what is never confirmed is started three times, and can be sent once more
	p := begin(t, releases())
	p.install(2, front)
	for range 3 {
		p.must(sending(p.w, 4)...)
		p.refuses(of(api.HConfirm, 0), api.ErrLate)
		p.runs(2, 4)
		for _, next := range []int{4, 4, 2} {
			p.must(restart()...)
			p.runs(4, next)
		}
		p.must(restart()...)
		p.runs(2, 2)
		p.refuses(of(api.HConfirm, 0), api.ErrLate)
	}
	p.install(4, front)
}

func TestTornWrites(t *testing.T) { // P12.2: at each sector, with each number of bytes that are kept
	for sector := range 8 {
		for kept := -1; kept <= 9; kept++ {
			p := begin(t, releases())
			p.hear(4, front)
			p.must(of(api.HOpen, 0))
			p.must(times(sector, api.HWrite)...)
			p.must(of(api.HTear, kept))
			p.runs(0, 1)
			p.refuses(of(api.HTear, kept), api.ErrLate)
			p.must(of(api.HBoot, 0))
			p.runs(1, 1)
			p.refuses(of(api.HWrite, 0), api.ErrLate)
			p.refuses(of(api.HFinish, 0), api.ErrLate)
			p.install(2+sector%2*2, front)
		}
	}
}

func TestTornRecords(t *testing.T) { // P12.2: the record is torn again and again, in either copy
	p := begin(t, releases())
	for _, to := range []int{2, 3, 4, 5} {
		from := p.good
		for range 3 {
			l := sending(p.w, to)
			p.must(l[:len(l)-1]...)
			p.must(of(api.HTearRec, 0))
			p.runs(0, from)
			p.refuses(of(api.HTearRec, 0), api.ErrLate)
			p.must(of(api.HBoot, 0))
			p.runs(from, from)
			p.refuses(of(api.HFinish, 0), api.ErrLate)
			p.must(restart()...)
		}
		p.install(to, back)
	}
}

// script is a long way to version 4, with losses, repeats, a version that is not confirmed, one that is, and events with errors.
func script() []api.Happening {
	first := fresh()
	second := after(first, sending(first, 3)...)
	for range 4 {
		second = after(second, restart()...)
	}
	third := after(second, updating(second, 2)...)
	return slices.Concat(
		[]api.Happening{of(api.HSend, 9), of(api.HSend, 2), of(api.HTwice, 1), of(api.HHear, 2), of(api.HLose, 0), of(api.HOpen, 0), of(api.HLose, 0)},
		sending(first, 3), restart(), restart(), restart(), restart(),
		updating(second, 2),
		[]api.Happening{of(api.HConfirm, 0), of(api.HBoot, 0), of(0, 0)},
		updating(third, 4),
	)
}

// failures are events in which the power fails, and one that is lost.
func failures() []api.Happening {
	return []api.Happening{of(api.HCrash, 0), of(api.HTear, -1), of(api.HTear, 0), of(api.HTear, 1), of(api.HTear, 5), of(api.HTear, 7), of(api.HTear, 8), of(api.HTearRec, 0), of(api.HLose, 0)}
}

func TestScript(t *testing.T) { // P12.2: the script as it is
	p := begin(t, releases())
	p.may(script()...)
	p.runs(4, 4)
	w, _, e := world.Run(newWorld(releases()), script())
	if e != api.OK || !world.Same(w, p.w) {
		t.Errorf("Run: %v, %d, want %v", w, e, p.w)
	}
	checkStory(t, w, 4, 4)
}

func TestFailuresEverywhere(t *testing.T) { // P12.2: a failure at every place of the script, which then goes on
	l, done := script(), map[int]int{}
	for at := range len(l) + 1 {
		before := begin(t, releases())
		before.may(l[:at]...)
		for _, x := range failures() {
			p := before.fork()
			if p.do(x) == api.OK {
				done[x.Kind]++
			}
			down := p.fork()
			down.may(l[at:]...) // until some event starts it
			p.may(of(api.HBoot, 0))
			p.may(l[at:]...)
			for _, q := range []*play{p, down} {
				q.calm()
				q.install(4+at%2, back)
			}
		}
	}
	if done[api.HCrash] < 40 || done[api.HTear] < 60 || done[api.HTearRec] < 3 || done[api.HLose] < 10 {
		t.Errorf("too few failures: %v", done)
	}
}

func TestTwoFailures(t *testing.T) { // P12.2: at every two places of the script
	l := script()
	for at := range l {
		before := begin(t, releases())
		before.may(l[:at]...)
		for _, x := range []api.Happening{of(api.HCrash, 0), of(api.HTear, 3), of(api.HTearRec, 0)} {
			p := before.fork()
			if p.do(x) != api.OK {
				continue
			}
			p.must(of(api.HBoot, 0))
			for _, y := range l[at:] {
				p.do(y)
				if q := p.fork(); q.do(of(api.HTear, 6)) == api.OK || q.do(of(api.HCrash, 0)) == api.OK {
					q.must(of(api.HBoot, 0))
				}
			}
			p.calm()
			p.install(4, front)
		}
	}
}

// key shows all of a world that counts for what may follow: of the generations only their order.
func key(w api.World) string {
	var b strings.Builder
	c := w.D.Copies
	fmt.Fprint(&b, c[0].R.Gen < c[1].R.Gen)
	c[0].R.Gen, c[1].R.Gen = 0, 0
	fmt.Fprint(&b, w.Net, c, w.D.Up, w.D.Running, w.D.Got, w.D.Busy, w.D.Job.To, w.D.Done)
	b.Write(w.D.Slots[0])
	b.Write(w.D.Slots[1])
	return b.String()
}

// steps returns the events that may follow in a world with few chunks on their way.
func steps(w api.World) []api.Happening {
	l := []api.Happening{of(api.HOpen, 0), of(api.HWrite, 0), of(api.HFinish, 0), of(api.HConfirm, 0), of(api.HCrash, 0), of(api.HBoot, 0), of(api.HTear, 3), of(api.HTearRec, 0)}
	if len(w.Net) == 0 {
		for n := range w.R {
			l = append(l, of(api.HSend, n+1))
		}
	}
	for n := range w.Net {
		l = append(l, of(api.HHear, n), of(api.HTwice, n), of(api.HLose, n))
	}
	return l
}

func TestAllWorlds(t *testing.T) { // P12.2: all worlds that are reached with few releases, and few chunks on their way
	for _, l := range [][][]byte{
		{[]byte("abcdefghi"), []byte("xyz")},
		{nil, upTo(8, 1, 1)},
		{[]byte("ab"), nil, nil},
	} {
		first := begin(t, l)
		seen := map[string]bool{key(first.w): true}
		for todo := []*play{first}; len(todo) > 0; todo = todo[1:] {
			for _, x := range steps(todo[0].w) {
				p := todo[0].fork()
				if p.do(x) != api.OK || seen[key(p.w)] {
					continue
				}
				seen[key(p.w)] = true
				todo = append(todo, p)
				q := p.fork()
				q.calm()
				q.must(slices.Repeat([]api.Happening{of(api.HLose, 0)}, len(q.w.Net))...)
				q.install(len(l), front)
			}
		}
		if len(seen) < 5000 {
			t.Errorf("only %d worlds are reached with %v", len(seen), l)
		}
	}
}

// someReleases returns up to api.MaxVersion releases of few different bytes.
func someReleases(next func(int) int) [][]byte {
	var l [][]byte
	for range 1 + next([]int{3, 6, 30}[next(3)]) {
		b := make([]byte, []int{0, 1, 7, 8, 9, 20, 33, 63, 64}[next(9)])
		for i := range b {
			b[i] = "abab\x00"[next(5)]
		}
		l = append(l, b)
	}
	return l
}

// someEvent returns an event that suits the play in most cases.
func someEvent(p *play, next func(int) int) api.Happening {
	d, net := p.w.D, len(p.w.Net)
	switch {
	case next(9) == 0: // anything, at any time
		return of(next(14), next(10)-2)
	case next(60) == 0:
		odd := append(extremes(), net, 31, 120)
		return of(1+next(12), odd[next(len(odd))])
	case !d.Up:
		return of(api.HBoot, 0)
	case d.Busy && d.Done < d.Job.Size:
		return of([]int{api.HWrite, api.HWrite, api.HWrite, api.HWrite, api.HWrite, api.HWrite, api.HWrite, api.HTear}[next(8)], next(10)-1)
	case d.Busy:
		return of([]int{api.HFinish, api.HFinish, api.HFinish, api.HTearRec}[next(4)], 0)
	case p.tried != 0 && next(3) > 0:
		return of([]int{api.HCrash, api.HConfirm}[next(2)], 0)
	case len(d.Got) > 0 && len(d.Got) == d.Got[0].Of && next(4) > 0:
		return of(api.HOpen, 0)
	case net == 0 || next(12) == 0:
		return of(api.HSend, 1+next(len(p.l)))
	case net > 60:
		return of(api.HLose, next(net))
	}
	return of([]int{api.HHear, api.HHear, api.HHear, api.HTwice, api.HTwice, api.HLose}[next(6)], next(net))
}

func TestSomeScripts(t *testing.T) { // P12.2: scripts that are drawn, after which a release is installed
	next := numbers(4)
	counts := map[string]int{}
	for range 2000 {
		p := begin(t, someReleases(next))
		var l []api.Happening
		var said []api.Errno
		for range next(201) {
			x := someEvent(p, next)
			e := p.do(x)
			l, said = append(l, x), append(said, e)
			counts[fmt.Sprint(x.Kind, " ", e == api.OK)]++
		}
		w, s, e := world.Run(newWorld(p.l), l)
		if e != api.OK || !slices.Equal(s, said) || !world.Same(w, p.w) {
			t.Fatalf("Run of %v: %v, %v, %d, want %v, %v", l, w, s, e, p.w, said)
		}
		checkSlow(t, w)
		p.calm()
		for len(p.w.Net) > 60 {
			p.must(of(api.HLose, next(len(p.w.Net))))
		}
		p.install(p.good+next(len(p.l)-p.good+1), next)
		counts[fmt.Sprint("version above 5 ", p.good > 5)]++
	}
	for kind := api.HSend; kind <= api.HTearRec; kind++ {
		for _, good := range []bool{false, true} {
			if n := counts[fmt.Sprint(kind, " ", good)]; n < 100 {
				t.Errorf("only %d events of kind %d without an error: %v", n, kind, good)
			}
		}
	}
	if n := counts["version above 5 true"]; n < 200 {
		t.Errorf("only %d scripts end with a version above 5", n)
	}
}
