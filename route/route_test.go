package route

import (
	"math"
	"slices"
	"testing"

	"cobbler/api"
)

// edge returns an edge, to be written briefly.
func edge(from, to, cost int) api.Edge { return api.Edge{From: from, To: to, Cost: cost} }

func edges(l ...api.Edge) []api.Edge { return l }

// times returns a list of n such edges.
func times(n int, e api.Edge) []api.Edge { return slices.Repeat([]api.Edge{e}, n) }

// chain returns edges of this cost that lead through the versions in turn.
func chain(cost int, versions ...int) []api.Edge {
	var l []api.Edge
	for i := 1; i < len(versions); i++ {
		l = append(l, edge(versions[i-1], versions[i], cost))
	}
	return l
}

// upTo returns the versions from one to a higher one.
func upTo(from, to int) []int {
	var l []int
	for v := from; v <= to; v++ {
		l = append(l, v)
	}
	return l
}

// backwards returns the list in the opposite order.
func backwards[T any](l []T) []T {
	l = slices.Clone(l)
	slices.Reverse(l)
	return l
}

// numbers returns a source of numbers below a limit; they look random and are the same each time.
func numbers(seed uint64) func(int) int {
	return func(limit int) int {
		seed = seed*6364136223846793005 + 1442695040888963407
		return int(seed >> 33 % uint64(limit))
	}
}

// shuffled returns the list in another order.
func shuffled(next func(int) int, l []api.Edge) []api.Edge {
	l = slices.Clone(l)
	for i := range l {
		j := i + next(len(l)-i)
		l[i], l[j] = l[j], l[i]
	}
	return l
}

// someEdges returns n edges between versions of a list; low costs make many paths cost alike.
func someEdges(next func(int) int, n, most int, versions []int) []api.Edge {
	l := make([]api.Edge, n)
	for i := range l {
		l[i] = edge(versions[next(len(versions))], versions[next(len(versions))], 1+next(most))
	}
	return l
}

// ranked is a path and its cost.
type ranked struct {
	versions []int
	cost     int
}

// order compares two paths as the document does.
func order(a, b ranked) int {
	if a.cost != b.cost {
		return a.cost - b.cost
	}
	if len(a.versions) != len(b.versions) {
		return len(a.versions) - len(b.versions)
	}
	for i := range a.versions {
		if a.versions[i] != b.versions[i] {
			return a.versions[i] - b.versions[i]
		}
	}
	return 0
}

// allPaths returns each path of at most n edges, also those with circles.
func allPaths(l []api.Edge, from, to, n int) []ranked {
	var all []ranked
	if from == to {
		all = append(all, ranked{[]int{to}, 0})
	}
	if n == 0 {
		return all
	}
	for _, e := range l {
		if e.From != from {
			continue
		}
		for _, p := range allPaths(l, e.To, to, n-1) {
			all = append(all, ranked{append([]int{from}, p.versions...), p.cost + e.Cost})
		}
	}
	return all
}

// slowBest sorts all paths that don't have more edges than there are versions.
func slowBest(l []api.Edge, from, to, versions int) ([]int, int, api.Errno) {
	all := allPaths(l, from, to, versions)
	if len(all) == 0 {
		return nil, 0, api.ErrWho
	}
	slices.SortFunc(all, order)
	return all[0].versions, all[0].cost, api.OK
}

const (
	perCost = 1000    // what one unit of cost weighs; an edge adds 1, and no path has that many
	noWay   = 1 << 40 // the weight where no path leads
)

// distances returns the lowest weight of a path from each version to each version.
func distances(l []api.Edge) [31][31]int {
	var d [31][31]int
	for i := range d {
		for j := range d[i] {
			d[i][j] = noWay
		}
		d[i][i] = 0
	}
	for _, e := range l {
		d[e.From][e.To] = min(d[e.From][e.To], e.Cost*perCost+1)
	}
	for k := range d {
		for i := range d {
			for j := range d {
				d[i][j] = min(d[i][j], d[i][k]+d[k][j])
			}
		}
	}
	return d
}

// followed goes from version to version, each time to the lowest one that is on a best path.
func followed(l []api.Edge, d *[31][31]int, from, to int) ([]int, int, api.Errno) {
	if d[from][to] >= noWay {
		return nil, 0, api.ErrWho
	}
	versions := []int{from}
	for v := from; v != to; {
		next := 31
		for _, e := range l {
			if e.From == v && e.Cost*perCost+1+d[e.To][to] == d[v][to] {
				next = min(next, e.To)
			}
		}
		v = next
		versions = append(versions, v)
	}
	return versions, d[from][to] / perCost, api.OK
}

// checkSlow compares Best with slowBest for each pair of versions.
func checkSlow(t *testing.T, l []api.Edge, versions []int) {
	t.Helper()
	for _, from := range versions {
		for _, to := range versions {
			want, cost, e := slowBest(l, from, to, len(versions))
			checkResult(t, l, from, to, want, cost, e)
		}
	}
}

// checkFollowed compares Best with followed for each pair of versions.
func checkFollowed(t *testing.T, l []api.Edge, versions []int) {
	t.Helper()
	d := distances(l)
	for _, from := range versions {
		for _, to := range versions {
			want, cost, e := followed(l, &d, from, to)
			checkResult(t, l, from, to, want, cost, e)
		}
	}
}

func checkResult(t *testing.T, l []api.Edge, from, to int, want []int, wantCost int, wantError api.Errno) {
	t.Helper()
	got, cost, e := Best(l, from, to)
	if !slices.Equal(got, want) || cost != wantCost || e != wantError {
		t.Fatalf("Best(%v, %d, %d) = %v, %d, %d, want %v, %d, %d", l, from, to, got, cost, e, want, wantCost, wantError)
	}
}

// trip is a path from the first to the last of its versions that is the best one.
type trip struct {
	l        []api.Edge
	versions []int
	cost     int
}

// checkTrips looks for each path, whatever the order of the edges.
func checkTrips(t *testing.T, trips []trip) {
	t.Helper()
	next := numbers(1)
	for _, c := range trips {
		from, to := c.versions[0], c.versions[len(c.versions)-1]
		checkResult(t, c.l, from, to, c.versions, c.cost, api.OK)
		checkResult(t, backwards(c.l), from, to, c.versions, c.cost, api.OK)
		for range 10 {
			checkResult(t, shuffled(next, c.l), from, to, c.versions, c.cost, api.OK)
		}
	}
}

// refusal is a call of Best that fails.
type refusal struct {
	l        []api.Edge
	from, to int
	want     api.Errno
}

func checkRefused(t *testing.T, l []refusal) {
	t.Helper()
	for _, c := range l {
		versions, cost, e := Best(c.l, c.from, c.to)
		if len(versions) != 0 || cost != 0 || e != c.want {
			t.Errorf("Best(%v, %d, %d) = %v, %d, %d, want none, 0, %d", c.l, c.from, c.to, versions, cost, e, c.want)
		}
	}
}

// validity is a list of edges and what Check says of it.
type validity struct {
	l    []api.Edge
	want api.Errno
}

func checkValidity(t *testing.T, l []validity) {
	t.Helper()
	for _, c := range l {
		if e := Check(c.l); e != c.want {
			t.Errorf("Check(%v) = %d, want %d", c.l, e, c.want)
		}
	}
}

func TestCheck(t *testing.T) { // P7.1
	checkValidity(t, []validity{
		{nil, api.OK},
		{[]api.Edge{}, api.OK},
		{edges(edge(1, 2, 1), edge(2, 3, 1), edge(1, 3, 2)), api.OK},
		{edges(edge(1, 1, 1)), api.OK},    // to itself
		{edges(edge(30, 1, 1)), api.OK},   // to a lower version
		{times(2, edge(1, 2, 1)), api.OK}, // twice the same
		{edges(edge(1, 2, 1), edge(2, 1, 1)), api.OK},
		{edges(edge(1, 1, 1), edge(30, 30, 1000), edge(1, 30, 1000), edge(30, 1, 1)), api.OK},
		{edges(edge(0, 2, 1)), api.ErrRange},
		{edges(edge(31, 2, 1)), api.ErrRange},
		{edges(edge(2, 0, 1)), api.ErrRange},
		{edges(edge(2, 31, 1)), api.ErrRange},
		{edges(edge(1, 2, 0)), api.ErrRange},
		{edges(edge(1, 2, 1001)), api.ErrRange},
		{edges(edge(-1, 2, 1)), api.ErrRange},
		{edges(edge(1, -2, 1)), api.ErrRange},
		{edges(edge(1, 2, -1)), api.ErrRange},
		{make([]api.Edge, 1), api.ErrRange},
	})
}

// values are good and bad ones for each field, and at the ends of int.
func values() []int {
	return []int{math.MinInt, math.MinInt + 1, math.MinInt32, -1000, -30, -1, 0, 1, 2, 29, 30, 31, 32, 999, 1000, 1001, 1002, math.MaxInt32, 1 << 32, 1<<32 + 1, math.MaxInt - 1, math.MaxInt}
}

func TestEveryField(t *testing.T) { // P7.1; P1: no panic
	for _, from := range values() {
		for _, to := range values() {
			for _, cost := range values() {
				want := api.ErrRange
				if from > 0 && from < 31 && to > 0 && to < 31 && cost > 0 && cost < 1001 {
					want = api.OK
				}
				e := edge(from, to, cost)
				valid := edge(1, 2, 3)
				checkValidity(t, []validity{{edges(e), want}, {edges(e, valid), want}, {edges(valid, valid, e), want}})
				if want != api.OK {
					checkRefused(t, []refusal{{edges(e), 1, 2, want}, {edges(valid, e), 1, 2, want}, {edges(valid, e), 1, 1, want}})
				}
			}
		}
	}
}

func TestMostEdges(t *testing.T) { // P7.1: just api.MaxEdges and more
	for n := range 200 {
		valid, invalid := times(n, edge(1, 2, 3)), times(n, edge(0, 0, 0))
		want, wantInvalid := api.OK, api.ErrRange
		if n == 0 {
			wantInvalid = api.OK
		}
		if n > 60 {
			want, wantInvalid = api.ErrMany, api.ErrMany
		}
		checkValidity(t, []validity{{valid, want}, {invalid, wantInvalid}})
		if n > 60 {
			checkRefused(t, []refusal{{valid, 1, 2, api.ErrMany}, {valid, 1, 1, api.ErrMany}, {invalid, 1, 2, api.ErrMany}})
		} else if n > 0 {
			checkTrips(t, []trip{{valid, []int{1, 2}, 3}})
		}
	}
	checkValidity(t, []validity{{make([]api.Edge, 100000), api.ErrMany}})
}

func TestEveryEdgeCounts(t *testing.T) { // P7.1, P7.2: at each place of a list of api.MaxEdges
	for i := range 60 {
		l := times(60, edge(1, 2, 3))
		l[i] = edge(1, 3, 5)
		checkTrips(t, []trip{{l, []int{1, 3}, 5}})
		for _, e := range edges(edge(0, 3, 5), edge(1, 31, 5), edge(1, 3, 0), edge(1, 3, 1001)) {
			l[i] = e
			checkValidity(t, []validity{{l, api.ErrRange}, {append(l, e), api.ErrMany}})
			checkRefused(t, []refusal{{l, 1, 2, api.ErrRange}, {l, 1, 3, api.ErrRange}})
		}
	}
}

func TestExample(t *testing.T) { // P7.2: the chapter's
	l := edges(edge(1, 2, 1), edge(2, 3, 1), edge(1, 3, 2))
	checkTrips(t, []trip{
		{l, []int{1, 3}, 2},
		{l, []int{1, 2}, 1},
		{l, []int{2, 3}, 1},
		{l, []int{1}, 0},
	})
}

func TestLowestCost(t *testing.T) { // P7.2: it comes before the number of versions and before the versions
	checkTrips(t, []trip{
		{edges(edge(1, 2, 7)), []int{1, 2}, 7},
		{edges(edge(1, 2, 1), edge(2, 3, 1), edge(1, 3, 3)), []int{1, 2, 3}, 2},
		{edges(edge(1, 2, 3), edge(2, 9, 3), edge(1, 5, 2), edge(5, 9, 3)), []int{1, 5, 9}, 5},
		{edges(edge(1, 2, 1), edge(2, 9, 9), edge(1, 5, 8), edge(5, 9, 1)), []int{1, 5, 9}, 9}, // the first edge costs more
		{edges(edge(9, 5, 2), edge(5, 1, 2)), []int{9, 5, 1}, 4},                               // to lower versions
		{edges(edge(3, 9, 1), edge(9, 1, 1), edge(1, 5, 1), edge(3, 5, 4)), []int{3, 9, 1, 5}, 3},
		{append(chain(1, upTo(1, 30)...), edge(1, 30, 30)), upTo(1, 30), 29},
		{append(chain(1, upTo(1, 30)...), edge(1, 30, 29)), []int{1, 30}, 29},
		{append(chain(1, upTo(1, 30)...), edge(1, 30, 28)), []int{1, 30}, 28},
	})
}

func TestSeveralEdges(t *testing.T) { // P7.2: between the same versions
	checkTrips(t, []trip{
		{edges(edge(1, 2, 3), edge(1, 2, 2), edge(1, 2, 4)), []int{1, 2}, 2},
		{edges(edge(1, 2, 1000), edge(1, 2, 1)), []int{1, 2}, 1},
		{times(60, edge(1, 2, 5)), []int{1, 2}, 5},
		{edges(edge(1, 2, 3), edge(2, 1, 1), edge(1, 2, 2)), []int{1, 2}, 2},
		{edges(edge(1, 2, 4), edge(2, 3, 4), edge(1, 2, 2), edge(2, 3, 3), edge(1, 3, 6)), []int{1, 2, 3}, 5},
		{edges(edge(1, 3, 9), edge(1, 2, 2), edge(2, 3, 3), edge(1, 3, 5)), []int{1, 3}, 5},
	})
}

func TestFewestVersions(t *testing.T) { // P7.2: of paths that cost alike; it comes before the versions
	checkTrips(t, []trip{
		{edges(edge(1, 2, 1), edge(2, 3, 1), edge(3, 9, 1), edge(1, 8, 2), edge(8, 9, 1)), []int{1, 8, 9}, 3},
		{edges(edge(1, 2, 1), edge(2, 9, 2), edge(1, 9, 3)), []int{1, 9}, 3},
		{edges(edge(5, 1, 1), edge(1, 2, 1), edge(2, 3, 1), edge(3, 6, 1), edge(5, 7, 2), edge(7, 8, 1), edge(8, 6, 1)), []int{5, 7, 8, 6}, 4},
		{slices.Concat(chain(1, 1, 2, 3, 4, 5, 6), edges(edge(1, 3, 2), edge(3, 5, 2))), []int{1, 3, 5, 6}, 5},
		{slices.Concat(chain(1, 1, 2, 3, 4, 5, 6), edges(edge(1, 4, 3), edge(4, 6, 2), edge(1, 5, 5))), []int{1, 4, 6}, 5},
		{slices.Concat(chain(1, upTo(1, 20)...), chain(2, 1, 3, 5, 7, 9, 11, 13, 15, 17, 19)), []int{1, 3, 5, 7, 9, 11, 13, 15, 17, 19, 20}, 19},
	})
}

func TestLowerVersion(t *testing.T) { // P7.2: at the first difference of paths that have as many versions and cost alike
	checkTrips(t, []trip{
		{slices.Concat(chain(1, 1, 2, 4), chain(1, 1, 3, 4)), []int{1, 2, 4}, 2},
		{edges(edge(1, 2, 3), edge(2, 4, 1), edge(1, 3, 1), edge(3, 4, 3)), []int{1, 2, 4}, 4}, // whichever edge costs less
		{edges(edge(1, 2, 1), edge(2, 4, 3), edge(1, 3, 3), edge(3, 4, 1)), []int{1, 2, 4}, 4},
		{slices.Concat(chain(1, 9, 30, 1), chain(1, 9, 10, 1)), []int{9, 10, 1}, 2},
		{slices.Concat(chain(1, 1, 9, 30), chain(1, 1, 10, 30)), []int{1, 9, 30}, 2},           // 10 is lower than 9 only as a text
		{slices.Concat(chain(1, 1, 2, 20, 30), chain(1, 1, 3, 4, 30)), []int{1, 2, 20, 30}, 3}, // the first difference, not the last
		{slices.Concat(chain(1, 1, 9, 3, 30), chain(1, 1, 8, 10, 30)), []int{1, 8, 10, 30}, 3},
		{slices.Concat(chain(1, 1, 2, 8, 9, 30), chain(1, 1, 3, 4, 5, 30)), []int{1, 2, 8, 9, 30}, 4},
		{slices.Concat(chain(1, 1, 5, 6, 30), chain(1, 5, 7, 30)), []int{1, 5, 6, 30}, 3}, // a common start
		{slices.Concat(chain(1, 1, 6, 5, 30), chain(1, 1, 7, 5)), []int{1, 6, 5, 30}, 3},  // a common end
		{slices.Concat(chain(1, 1, 2, 3, 9), chain(1, 1, 2, 4, 9), chain(1, 1, 5, 6, 9)), []int{1, 2, 3, 9}, 3},
		{edges(edge(1, 2, 1), edge(2, 3, 1), edge(1, 7, 1), edge(7, 8, 1), edge(3, 9, 5), edge(8, 9, 5), edge(1, 6, 2), edge(6, 9, 5)), []int{1, 6, 9}, 7},
	})
}

func TestFromAndToAlike(t *testing.T) { // P7.2
	for v := 1; v <= 30; v++ {
		other := v%30 + 1
		checkTrips(t, []trip{
			{nil, []int{v}, 0},
			{[]api.Edge{}, []int{v}, 0},
			{edges(edge(v, v, 1)), []int{v}, 0},
			{times(60, edge(v, v, 1)), []int{v}, 0},
			{edges(edge(other, other, 1)), []int{v}, 0},
			{chain(1, v, other, v), []int{v}, 0},
			{edges(edge(v, v, 1), edge(v, other, 1)), []int{v, other}, 1},
			{edges(edge(other, other, 1), edge(v, other, 1)), []int{v, other}, 1},
		})
	}
}

func TestCircles(t *testing.T) { // P7.2
	checkTrips(t, []trip{
		{chain(1, 1, 2, 1, 3), []int{1, 3}, 1},
		{chain(1, 1, 2, 3, 1), []int{1, 2, 3}, 2},
		{chain(1, 1, 2, 3, 1), []int{3, 1, 2}, 2},
		{chain(1, 1, 2, 3, 1), []int{2}, 0},
		{chain(1, 1, 2, 3, 2, 4), []int{1, 2, 4}, 2},
		{slices.Concat(chain(1, 5, 1, 5), edges(edge(5, 9, 1000))), []int{5, 9}, 1000}, // the circle costs less than the edge
		{slices.Concat(chain(1, 1, 2, 3, 4, 1), chain(2, 3, 9, 3)), []int{4, 1, 2, 3, 9}, 5},
		{chain(1, append(upTo(1, 30), 1)...), append(upTo(16, 30), upTo(1, 15)...), 29},
	})
	round := chain(1, append(upTo(1, 30), 1)...)
	checkFollowed(t, round, upTo(1, 30))
	checkFollowed(t, backwards(round), upTo(1, 30))
}

func TestNoPath(t *testing.T) { // P7.2; P3: the other results are zero
	apart := slices.Concat(chain(1, 1, 2, 3, 1), chain(1, 4, 5, 6, 4))
	checkRefused(t, []refusal{
		{nil, 1, 2, api.ErrWho},
		{[]api.Edge{}, 30, 1, api.ErrWho},
		{edges(edge(1, 2, 1)), 2, 1, api.ErrWho}, // only the other way
		{edges(edge(30, 1, 1)), 1, 30, api.ErrWho},
		{chain(1, 1, 2, 3, 4), 4, 1, api.ErrWho},
		{chain(1, 1, 2, 3, 4), 3, 2, api.ErrWho},
		{chain(1, upTo(1, 30)...), 30, 1, api.ErrWho},
		{edges(edge(1, 2, 1), edge(3, 2, 1)), 1, 3, api.ErrWho}, // the second one the other way
		{edges(edge(2, 1, 1), edge(2, 3, 1)), 1, 3, api.ErrWho}, // the first one
		{edges(edge(1, 2, 1), edge(3, 4, 1)), 1, 4, api.ErrWho}, // a gap
		{edges(edge(1, 1, 1), edge(2, 2, 1)), 1, 2, api.ErrWho},
		{edges(edge(1, 2, 1)), 1, 3, api.ErrWho},
		{edges(edge(1, 2, 1)), 3, 2, api.ErrWho},
		{apart, 1, 4, api.ErrWho},
		{apart, 6, 3, api.ErrWho},
		{apart, 1, 30, api.ErrWho},
		{times(60, edge(1, 2, 1)), 2, 1, api.ErrWho},
	})
}

func TestVersionsAtTheEnds(t *testing.T) { // P7.2: 1 and api.MaxVersion
	checkTrips(t, []trip{
		{edges(edge(1, 30, 4)), []int{1, 30}, 4},
		{edges(edge(30, 1, 4)), []int{30, 1}, 4},
		{edges(edge(2, 1, 4), edge(1, 3, 4)), []int{2, 1, 3}, 8},
		{edges(edge(2, 30, 4), edge(30, 3, 4)), []int{2, 30, 3}, 8},
		{slices.Concat(chain(1, 2, 1, 3), chain(1, 2, 30, 3)), []int{2, 1, 3}, 2},
		{edges(edge(1, 2, 1)), []int{1}, 0},
		{edges(edge(1, 2, 1)), []int{30}, 0},
	})
}

func TestCostsAtTheEnds(t *testing.T) { // P7.2: 1 and api.MaxCost
	checkTrips(t, []trip{
		{edges(edge(1, 2, 1)), []int{1, 2}, 1},
		{edges(edge(1, 2, 1000)), []int{1, 2}, 1000},
		{append(chain(1000, 1, 2, 3), edge(1, 3, 1)), []int{1, 3}, 1},
		{append(chain(500, 1, 2, 3), edge(1, 3, 1000)), []int{1, 3}, 1000},
		{append(chain(499, 1, 2, 3), edge(1, 3, 1000)), []int{1, 2, 3}, 998},
		{edges(edge(1, 2, 1), edge(2, 3, 999), edge(1, 3, 1000)), []int{1, 3}, 1000},
		{edges(edge(1, 2, 1), edge(2, 3, 998), edge(1, 3, 1000)), []int{1, 2, 3}, 999},
	})
}

func TestLongestPath(t *testing.T) { // P7.2: through all versions, in whichever order the edges are
	next := numbers(2)
	versions := upTo(1, 30)
	for range 200 {
		checkTrips(t, []trip{
			{chain(1000, versions...), slices.Clone(versions), 29000},
			{slices.Concat(chain(1, versions...), chain(2, versions...)), slices.Clone(versions), 29},
			{slices.Concat(chain(1, versions...), chain(1, backwards(versions)...)), slices.Clone(versions), 29},
		})
		for i := range versions {
			j := i + next(len(versions)-i)
			versions[i], versions[j] = versions[j], versions[i]
		}
	}
}

func TestBestRefusesVersions(t *testing.T) { // P7.2; P3: the other results are zero
	l := edges(edge(1, 2, 1), edge(2, 30, 1), edge(30, 1, 1), edge(1, 1, 1))
	for _, from := range values() {
		for _, to := range values() {
			if from > 0 && from < 31 && to > 0 && to < 31 {
				continue
			}
			checkRefused(t, []refusal{
				{nil, from, to, api.ErrRange}, // no path either
				{[]api.Edge{}, from, to, api.ErrRange},
				{l, from, to, api.ErrRange},
				{edges(edge(3, 4, 1)), from, to, api.ErrRange},
			})
		}
	}
}

func TestFirstError(t *testing.T) { // P7.2, P3: two at once
	many, bad := times(61, edge(1, 2, 1)), edges(edge(1, 2, 1), edge(1, 2, 0))
	manyBad := times(61, edge(31, 2, 1))
	checkRefused(t, []refusal{
		{many, 0, 2, api.ErrMany},
		{many, 1, 31, api.ErrMany},
		{many, 31, 31, api.ErrMany},
		{many, 2, 1, api.ErrMany}, // no path
		{many, 1, 1, api.ErrMany},
		{many, math.MinInt, math.MaxInt, api.ErrMany},
		{manyBad, 1, 2, api.ErrMany},
		{manyBad, 31, 2, api.ErrMany},
		{append(slices.Clone(many), edge(0, 0, 0)), 1, 2, api.ErrMany},
		{append(edges(edge(0, 0, 0)), many[1:]...), 1, 2, api.ErrMany},
		{bad, 0, 2, api.ErrRange},
		{bad, 2, 1, api.ErrRange}, // no path
		{bad, 5, 5, api.ErrRange},
		{bad, 1, 2, api.ErrRange}, // there is a path without the edge that may not be
		{edges(edge(31, 2, 1)), 31, 2, api.ErrRange},
		{edges(edge(0, 0, 1)), 0, 0, api.ErrRange},
	})
}

func TestEveryShortList(t *testing.T) { // P7.2
	versions := []int{1, 2, 30}
	var kinds []api.Edge
	for _, from := range versions {
		for _, to := range versions {
			kinds = append(kinds, edge(from, to, 1), edge(from, to, 2))
		}
	}
	all := [][]api.Edge{nil}
	for i := 0; i < len(all) && len(all[i]) < 3; i++ {
		for _, e := range kinds {
			all = append(all, append(slices.Clone(all[i]), e))
		}
	}
	for _, l := range all {
		checkSlow(t, l, versions)
	}
}

func TestMiddleLists(t *testing.T) { // P7.2: many paths cost alike
	next := numbers(3)
	for range 2000 {
		versions := []int{1, 2, 9, 10, 30}[:2+next(4)]
		l := someEdges(next, next(12), 1+next(4), versions)
		checkSlow(t, l, versions)
		checkFollowed(t, l, versions)
	}
}

func TestLongLists(t *testing.T) { // P7.2: up to api.MaxEdges between up to api.MaxVersion versions
	next := numbers(4)
	for range 150 {
		versions := upTo(1, 3+next(28))
		l := someEdges(next, next(61), []int{1, 2, 3, 1000}[next(4)], versions)
		checkFollowed(t, l, versions)
	}
}

func TestLayers(t *testing.T) { // P7.2: very many paths have as many versions and cost alike
	next := numbers(5)
	for range 100 {
		var l []api.Edge
		for i := range 14 { // each of two versions leads to each of the next two
			a, b := 1+2*i, 3+2*i
			l = append(l, edge(a, b, 1), edge(a, b+1, 1), edge(a+1, b, 1), edge(a+1, b+1, 1))
		}
		at := next(len(l))
		l = slices.Delete(l, at, at+1)
		l = shuffled(next, l)
		d := distances(l)
		want, cost, e := followed(l, &d, 1, 30)
		checkResult(t, l, 1, 30, want, cost, e)
		want, cost, e = followed(l, &d, 2, 29)
		checkResult(t, l, 2, 29, want, cost, e)
	}
}

func TestAnyEdges(t *testing.T) { // P1: no panic
	next := numbers(6)
	v := values()
	for range 20000 {
		l := make([]api.Edge, next(70))
		want := api.OK
		for i := range l {
			l[i] = edge(1+next(30), 1+next(30), 1+next(1000))
			if next(30) == 0 {
				l[i] = edge(v[next(len(v))], v[next(len(v))], v[next(len(v))])
			}
			if e := l[i]; e.From < 1 || e.From > 30 || e.To < 1 || e.To > 30 || e.Cost < 1 || e.Cost > 1000 {
				want = api.ErrRange
			}
		}
		if len(l) > 60 {
			want = api.ErrMany
		}
		from, to := v[next(len(v))], v[next(len(v))]
		checkValidity(t, []validity{{l, want}})
		_, _, e := Best(l, from, to)
		if want == api.OK && (from < 1 || from > 30 || to < 1 || to > 30) {
			want = api.ErrRange
		}
		if e != want && (want != api.OK || e != api.ErrWho) {
			t.Fatalf("Best(%v, %d, %d): error %d, want %d", l, from, to, e, want)
		}
	}
}

func TestOnlyArgumentsCount(t *testing.T) { // P1: not what was called before, not what lies behind the list
	l := edges(edge(1, 2, 1), edge(2, 3, 1), edge(1, 3, 3))
	roomy := append(append(make([]api.Edge, 0, 100), l...), edge(1, 3, 1), edge(0, 0, 0))[:len(l)]
	Best(edges(edge(1, 3, 1)), 1, 3)
	Best(edges(edge(0, 3, 1)), 1, 3)
	Check(times(61, edge(1, 1, 1)))
	for range 3 {
		for _, given := range [][]api.Edge{l, slices.Clone(l), roomy} {
			checkResult(t, given, 1, 3, []int{1, 2, 3}, 2, api.OK)
			checkResult(t, given, 3, 1, nil, 0, api.ErrWho)
			checkValidity(t, []validity{{given, api.OK}})
		}
	}
}

func TestArgumentsAreOnlyRead(t *testing.T) { // P2: also what lies behind them
	next := numbers(7)
	for range 2000 {
		l := someEdges(next, 70, 5, upTo(1, 10))
		if next(2) == 0 {
			l[next(len(l))].Cost = 0
		}
		was := slices.Clone(l)
		given := l[:next(len(l))]
		Check(given)
		Best(given, 1+next(10), 1+next(10))
		Best(given, 0, 31)
		if !slices.Equal(l, was) {
			t.Fatalf("the edges have changed: %v is %v", was, l)
		}
	}
}

func TestResultIsNew(t *testing.T) { // P2: a call does not keep what it returned, nor its argument
	for _, c := range []trip{
		{nil, []int{1}, 0},
		{edges(edge(1, 2, 1), edge(2, 3, 1), edge(2, 4, 1)), []int{1, 2, 3}, 2},
		{chain(1, upTo(1, 30)...), upTo(1, 30), 29},
	} {
		from, to := c.versions[0], c.versions[len(c.versions)-1]
		first, _, _ := Best(c.l, from, to)
		second, _, _ := Best(c.l, from, to)
		first = first[:cap(first)]
		for i := range first {
			first[i] = -7
		}
		if !slices.Equal(second, c.versions) {
			t.Errorf("two results share memory: %v, want %v", second, c.versions)
		}
		checkResult(t, c.l, from, to, c.versions, c.cost, api.OK)
		for i := range c.l {
			c.l[i] = edge(-7, -7, -7)
		}
		if !slices.Equal(second, c.versions) {
			t.Errorf("the edges were kept: %v, want %v", second, c.versions)
		}
	}
}
