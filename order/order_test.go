package order_test

import (
	"math"
	"math/rand"
	"slices"
	"testing"

	"sleuth/api"
	"sleuth/order"
)

// of is a graph of nodes with these parents, all of one time.
func of(parents ...[]int) []api.Node {
	var g []api.Node
	for _, p := range parents {
		g = append(g, api.Node{Parents: p})
	}
	return g
}

// at is the same nodes with these times.
func at(g []api.Node, times ...int) []api.Node {
	l := slices.Clone(g)
	for n, time := range times {
		l[n].Time = time
	}
	return l
}

// line is n nodes, each one's parent the one below it.
func line(n int) []api.Node {
	g := make([]api.Node, n)
	for k := 1; k < n; k++ {
		g[k].Parents = []int{k - 1}
	}
	return g
}

// anyGraph is one of n nodes with up to so many parents each, in any order, of times from 0 to a greatest one.
func anyGraph(r *rand.Rand, n, most, greatest int) []api.Node {
	g := make([]api.Node, n)
	for k := range g {
		g[k].Time = r.Intn(greatest + 1)
		g[k].Parents = r.Perm(k)[:r.Intn(min(k, most)+1)]
	}
	return g
}

// nearGraph is one whose nodes have parents not far below them, or none, of few times.
func nearGraph(r *rand.Rand, n int) []api.Node {
	g := make([]api.Node, n)
	for k := range g {
		g[k].Time = r.Intn(20)
		for _, d := range r.Perm(6)[:r.Intn(4)] {
			if d < k {
				g[k].Parents = append(g[k].Parents, k-1-d)
			}
		}
	}
	return g
}

// smallGraphs are all of n nodes, whose parents stand in each order.
func smallGraphs(n int) [][]api.Node {
	if n == 0 {
		return [][]api.Node{{}}
	}
	var all [][]api.Node
	for _, g := range smallGraphs(n - 1) {
		for _, subset := range subsets(n - 1) {
			for _, parents := range orders(subset) {
				all = append(all, append(slices.Clone(g), api.Node{Parents: parents}))
			}
		}
	}
	return all
}

// subsets are all lists of numbers below n that rise.
func subsets(n int) [][]int {
	all := make([][]int, 1<<n)
	for bits := range all {
		for k := range n {
			if bits>>k&1 == 1 {
				all[bits] = append(all[bits], k)
			}
		}
	}
	return all
}

// orders are all ways in which these may stand.
func orders(l []int) [][]int {
	if len(l) == 0 {
		return [][]int{nil}
	}
	var all [][]int
	for k, one := range l {
		for _, rest := range orders(slices.Delete(slices.Clone(l), k, k+1)) {
			all = append(all, append([]int{one}, rest...))
		}
	}
	return all
}

// tuples are all lists of n numbers below most.
func tuples(n, most int) [][]int {
	if n == 0 {
		return [][]int{nil}
	}
	var all [][]int
	for _, l := range tuples(n-1, most) {
		for k := range most {
			all = append(all, append(slices.Clone(l), k))
		}
	}
	return all
}

// upTo is the numbers below n.
func upTo(n int) []int {
	l := make([]int, n)
	for k := range l {
		l[k] = k
	}
	return l
}

// times are all nodes' times.
func times(g []api.Node) []int {
	var l []int
	for _, node := range g {
		l = append(l, node.Time)
	}
	return l
}

// telling is what has been told of some nodes, by the words of the chapter.
type telling struct {
	g    []api.Node
	l    []int
	by   []int
	told []int
}

// younger asks whether a is younger than b.
func (m *telling) younger(a, b int) bool {
	return m.by[a] > m.by[b] || m.by[a] == m.by[b] && a > b
}

// youngest is that of some nodes.
func (m *telling) youngest(l []int) int {
	best := l[0]
	for _, n := range l {
		if m.younger(n, best) {
			best = n
		}
	}
	return best
}

// ready are the nodes of the list that have not been told, all of whose children that are in the list have been.
func (m *telling) ready() []int {
	var l []int
	for n := range m.g {
		waits := slices.ContainsFunc(m.l, func(c int) bool {
			return slices.Contains(m.g[c].Parents, n) && !slices.Contains(m.told, c)
		})
		if slices.Contains(m.l, n) && !slices.Contains(m.told, n) && !waits {
			l = append(l, n)
		}
	}
	return l
}

// plain is what Plain tells.
func plain(g []api.Node, l []int) []int {
	m := telling{g: g, by: times(g)}
	var rest []int
	for n := range g {
		if slices.Contains(l, n) {
			rest = append(rest, n)
		}
	}
	for len(rest) > 0 {
		n := m.youngest(rest)
		m.told = append(m.told, n)
		rest = slices.DeleteFunc(rest, func(k int) bool { return k == n })
	}
	return m.told
}

// author is what Author tells.
func author(g []api.Node, l, by []int) []int {
	m := telling{g: g, l: l, by: by}
	for ready := m.ready(); len(ready) > 0; ready = m.ready() {
		m.told = append(m.told, m.youngest(ready))
	}
	return m.told
}

// topo is what Topo tells. The pile's top is its first one.
func topo(g []api.Node, l []int) []int {
	m := telling{g: g, l: l, by: times(g)}
	pile := m.ready()
	slices.SortFunc(pile, func(a, b int) int {
		if m.younger(a, b) {
			return -1
		}
		return 1
	})
	for len(pile) > 0 {
		before := m.ready()
		n := pile[0]
		m.told, pile = append(m.told, n), pile[1:]
		after := m.ready()
		for k := len(g[n].Parents) - 1; k >= 0; k-- {
			p := g[n].Parents[k]
			if slices.Contains(after, p) && !slices.Contains(before, p) {
				pile = append([]int{p}, pile...)
			}
		}
	}
	return m.told
}

// is fails a test where a list, or the error, is another one.
func is(t *testing.T, what string, l []int, e api.Errno, want []int, wantE api.Errno) {
	t.Helper()
	if !slices.Equal(l, want) || e != wantE {
		t.Fatalf("%s: %v, %v, want %v, %v", what, l, e, want, wantE)
	}
}

// call is one of the four, with the numbers that Author is handed.
type call struct {
	what string
	ask  func(g []api.Node, l, by []int) ([]int, api.Errno)
}

// calls are all four.
var calls = []call{
	{"Plain", func(g []api.Node, l, by []int) ([]int, api.Errno) { return order.Plain(g, l) }},
	{"Date", func(g []api.Node, l, by []int) ([]int, api.Errno) { return order.Date(g, l) }},
	{"Topo", func(g []api.Node, l, by []int) ([]int, api.Errno) { return order.Topo(g, l) }},
	{"Author", order.Author},
}

// hold asks all four of a list against the chapter's words.
func hold(t *testing.T, g []api.Node, l, by []int) {
	t.Helper()
	for k, want := range [][]int{plain(g, l), author(g, l, times(g)), topo(g, l), author(g, l, by)} {
		if x, e := calls[k].ask(g, l, by); !slices.Equal(x, want) || e != api.OK {
			t.Fatalf("%s of %v in %v by %v: %v, %v, want %v", calls[k].what, l, g, by, x, e, want)
		}
	}
}

// what is refused

// wrongs are graphs that aren't right.
var wrongs = []struct {
	what string
	g    []api.Node
}{
	{"129 nodes", line(129)},
	{"many nodes", make([]api.Node, 1<<16)},
	{"7 parents", of(nil, nil, nil, nil, nil, nil, nil, []int{0, 1, 2, 3, 4, 5, 6})},
	{"its own parent", of([]int{0})},
	{"a parent above it", of([]int{1}, nil)},
	{"two that are each other's parents", of([]int{1}, []int{0})},
	{"a parent that is none's number", of(nil, []int{7})},
	{"a parent below 0", of(nil, []int{-1})},
	{"the least parent", of(nil, []int{math.MinInt})},
	{"the greatest parent", of(nil, []int{math.MaxInt})},
	{"a parent twice", of(nil, []int{0, 0})},
	{"a time below 0", at(of(nil, nil), 0, -1)},
	{"a time too great", at(of(nil, nil), 1<<40+1, 0)},
}

func TestWrongGraphs(t *testing.T) {
	lists := [][]int{nil, {}, {0}, {0, 0}, {-1}, {1 << 20}, {0, math.MaxInt}, {math.MinInt}}
	for _, w := range wrongs {
		for _, l := range lists {
			for _, by := range [][]int{nil, {5}, make([]int, len(w.g)), make([]int, len(w.g)+1)} {
				for _, c := range calls {
					x, e := c.ask(w.g, l, by)
					is(t, c.what+" of "+w.what, x, e, nil, api.ErrForm)
				}
			}
		}
	}
}

func TestGraphsAtTheLimits(t *testing.T) {
	g := of(nil, nil, nil, nil, nil, nil, []int{3, 5, 1, 0, 2, 4})
	hold(t, at(g, 1<<40, 0, 1<<40, 1<<40-1, 0, 1, 0), upTo(7), make([]int, 7))
	hold(t, line(128), upTo(128), make([]int, 128))
}

func TestNumbersThatAreNoNodes(t *testing.T) {
	for n := range 5 {
		g := line(n)
		for _, wrong := range []int{-1, -2, n, n + 1, 127, 128, math.MinInt, math.MaxInt, math.MinInt32, math.MaxInt32, 1 << 32, -1 << 32} {
			for place := range n + 1 {
				l := slices.Insert(upTo(n), place, wrong)
				for _, c := range calls {
					x, e := c.ask(g, l, make([]int, n))
					is(t, c.what, x, e, nil, api.ErrArg)
					x, e = c.ask(g, []int{wrong}, make([]int, n))
					is(t, c.what, x, e, nil, api.ErrArg)
				}
			}
		}
	}
}

func TestEachNumberOfAFullGraph(t *testing.T) {
	g := line(128)
	for n := -3; n < 300; n++ {
		want, wantE := []int{n}, api.OK
		if n < 0 || n > 127 {
			want, wantE = nil, api.ErrArg
		}
		for _, c := range calls {
			x, e := c.ask(g, []int{n}, make([]int, 128))
			is(t, c.what, x, e, want, wantE)
		}
	}
}

func TestNumbersForTooFewNodes(t *testing.T) {
	for n := range 129 {
		g := line(n)
		for have := range n {
			for _, l := range [][]int{nil, {0}, {have}, upTo(have), upTo(n)} {
				x, e := order.Author(g, l, make([]int, have))
				is(t, "Author", x, e, nil, api.ErrArg)
			}
		}
		l := upTo(n)
		slices.Reverse(l)
		x, e := order.Author(g, l, make([]int, n))
		is(t, "Author", x, e, l, api.OK)
	}
	x, e := order.Author(line(3), []int{2}, nil)
	is(t, "Author by nothing", x, e, nil, api.ErrArg)
	x, e = order.Author(line(3), []int{3}, nil)
	is(t, "Author by nothing of no node", x, e, nil, api.ErrArg)
}

func TestNoNodes(t *testing.T) {
	for _, g := range [][]api.Node{nil, {}, of(nil), diamond} {
		for _, l := range [][]int{nil, {}} {
			for _, c := range calls {
				x, e := c.ask(g, l, make([]int, len(g)))
				is(t, c.what, x, e, nil, api.OK)
			}
		}
	}
	x, e := order.Author(nil, nil, nil)
	is(t, "Author", x, e, nil, api.OK)
}

// P15.1 to P15.3: known cases

// diamond is the chapter's graph.
var diamond = at(of(nil, []int{0}, []int{0}, []int{1, 2}), 0, 5, 1, 6)

// twoLines are two lines from one root, by turns younger and older, that meet in 6.
var twoLines = at(of(nil, []int{0}, []int{0}, []int{1}, []int{2}, []int{3}, []int{5, 4}), 0, 10, 20, 30, 40, 50, 60)

func TestKnown(t *testing.T) {
	for _, c := range []struct {
		what              string
		g                 []api.Node
		l                 []int
		plain, date, topo []int
	}{
		{"the chapter's", diamond, []int{0, 1, 2, 3}, []int{3, 1, 2, 0}, []int{3, 1, 2, 0}, []int{3, 1, 2, 0}},
		{"the chapter's without its top", diamond, []int{0, 1, 2}, []int{1, 2, 0}, []int{1, 2, 0}, []int{1, 2, 0}},
		{"the chapter's, its sides alone", diamond, []int{2, 1}, []int{1, 2}, []int{1, 2}, []int{1, 2}},
		{"one node", of(nil), []int{0}, []int{0}, []int{0}, []int{0}},
		{"one node again and again", of(nil), []int{0, 0, 0}, []int{0}, []int{0}, []int{0}},
		{"of one time", of(nil, nil, nil), []int{1, 0, 2}, []int{2, 1, 0}, []int{2, 1, 0}, []int{2, 1, 0}},
		{"times that fall", at(of(nil, nil, nil), 9, 8, 7), []int{1, 0, 2}, []int{0, 1, 2}, []int{0, 1, 2}, []int{0, 1, 2}},
		{"two of one time", at(of(nil, nil, nil), 5, 1, 5), []int{1, 0, 2}, []int{2, 0, 1}, []int{2, 0, 1}, []int{2, 0, 1}},
		{"times as far apart as can be", at(of(nil, nil, nil), 1<<40, 0, 1<<40-1), []int{0, 1, 2}, []int{0, 2, 1}, []int{0, 2, 1}, []int{0, 2, 1}},
		{"a parent that is younger", at(line(3), 9, 5, 7), []int{0, 1, 2}, []int{0, 2, 1}, []int{2, 1, 0}, []int{2, 1, 0}},
		{"a parent that is younger, the child not asked", at(line(3), 9, 5, 7), []int{0, 2}, []int{0, 2}, []int{0, 2}, []int{0, 2}},
		{"lines by turns", twoLines, upTo(7), []int{6, 5, 4, 3, 2, 1, 0}, []int{6, 5, 4, 3, 2, 1, 0}, []int{6, 5, 3, 1, 4, 2, 0}},
		{"lines without what they meet in", twoLines, upTo(6), []int{5, 4, 3, 2, 1, 0}, []int{5, 4, 3, 2, 1, 0}, []int{5, 3, 1, 4, 2, 0}},
		{"a line with a gap", twoLines, []int{6, 5, 1, 4, 0}, []int{6, 5, 4, 1, 0}, []int{6, 5, 4, 1, 0}, []int{6, 5, 4, 1, 0}},
	} {
		x, e := order.Plain(c.g, c.l)
		is(t, "Plain: "+c.what, x, e, c.plain, api.OK)
		x, e = order.Date(c.g, c.l)
		is(t, "Date: "+c.what, x, e, c.date, api.OK)
		x, e = order.Topo(c.g, c.l)
		is(t, "Topo: "+c.what, x, e, c.topo, api.OK)
	}
}

func TestTopo(t *testing.T) {
	for _, c := range []struct {
		what string
		g    []api.Node
		l    []int
		want []int
	}{
		{"the first parent first", of(nil, nil, nil, []int{1, 0, 2}), upTo(4), []int{3, 1, 0, 2}},
		{"whatever their times", at(of(nil, nil, nil, []int{1, 0, 2}), 9, 1, 5), upTo(4), []int{3, 1, 0, 2}},
		{"ahead of what waited", at(of(nil, nil, []int{0}, []int{1}), 0, 9, 7, 8), upTo(4), []int{3, 1, 2, 0}},
		{"the youngest of those that wait at first", at(of(nil, nil, []int{0}, []int{1}), 0, 9, 8, 7), upTo(4), []int{2, 0, 3, 1}},
		{"a parent whose other child is to be told", at(of(nil, nil, []int{0, 1}, []int{0}), 0, 0, 9, 8), upTo(4), []int{2, 1, 3, 0}},
		{"a parent whose other child isn't asked", at(of(nil, nil, []int{0, 1}, []int{0}), 0, 0, 9, 8), []int{2, 1, 0}, []int{2, 0, 1}},
		{"a parent that isn't asked", of(nil, nil, nil, []int{1, 0, 2}), []int{2, 1, 3}, []int{3, 1, 2}},
		{"a grandparent whose child isn't asked", at(line(3), 0, 0, 5), []int{2, 0}, []int{2, 0}},
		{"a grandparent that is younger, its child not asked", at(line(3), 6, 0, 5), []int{2, 0}, []int{0, 2}},
	} {
		x, e := order.Topo(c.g, c.l)
		is(t, c.what, x, e, c.want, api.OK)
	}
}

func TestAuthor(t *testing.T) {
	for _, c := range []struct {
		what  string
		g     []api.Node
		l, by []int
		want  []int
	}{
		{"the chapter's, turned round", diamond, upTo(4), []int{0, 1, 5, 6}, []int{3, 2, 1, 0}},
		{"the top not the youngest", diamond, upTo(4), []int{9, 1, 5, -6}, []int{3, 2, 1, 0}},
		{"of one number", diamond, upTo(4), []int{7, 7, 7, 7}, []int{3, 2, 1, 0}},
		{"numbers below 0", of(nil, nil, nil), upTo(3), []int{-1, -3, -2}, []int{0, 2, 1}},
		{"numbers as far apart as can be", of(nil, nil, nil), upTo(3), []int{math.MaxInt, math.MinInt, 0}, []int{0, 2, 1}},
		{"and the other way round", of(nil, nil, nil), upTo(3), []int{math.MinInt, 0, math.MaxInt}, []int{2, 1, 0}},
		{"the least and the greatest", of(nil, nil, nil, nil), upTo(4), []int{math.MinInt, math.MaxInt, math.MinInt, math.MaxInt}, []int{3, 1, 2, 0}},
		{"numbers above the greatest time", of(nil, nil), upTo(2), []int{1<<40 + 2, 1<<40 + 1}, []int{0, 1}},
		{"times that say otherwise", at(of(nil, nil), 5, 9), upTo(2), []int{9, 5}, []int{0, 1}},
		{"some of them", diamond, []int{2, 0}, []int{9, 0, 1, 0}, []int{2, 0}},
		{"some that are no children", diamond, []int{3, 0, 0}, []int{9, 0, 1, 0}, []int{0, 3}},
	} {
		x, e := order.Author(c.g, c.l, c.by)
		is(t, c.what, x, e, c.want, api.OK)
	}
}

// P15.1 to P15.3 against the chapter's words

func TestAllSmallGraphs(t *testing.T) {
	for n := range 5 {
		lists := subsets(n)
		ages := tuples(n, min(n, 3))
		for k, g := range smallGraphs(n) {
			for j, l := range lists {
				for i := range 6 {
					a := ages[(k*7+j*5+i*31)%len(ages)]
					b := ages[(k*3+j*11+i*17+1)%len(ages)]
					hold(t, at(g, a...), l, b)
				}
			}
		}
	}
}

func TestAllAgesOfThreeNodes(t *testing.T) {
	for _, g := range smallGraphs(3) {
		for _, l := range subsets(3) {
			for _, a := range tuples(3, 3) {
				for _, b := range tuples(3, 3) {
					hold(t, at(g, a...), l, b)
				}
			}
		}
	}
}

func TestAnyGraphs(t *testing.T) {
	r := rand.New(rand.NewSource(151))
	differ := 0
	for range 300 {
		n := r.Intn(41)
		g := anyGraph(r, n, 1+r.Intn(6), []int{0, 3, 50, 1 << 40}[r.Intn(4)])
		if r.Intn(2) == 0 {
			g = nearGraph(r, n)
		}
		for range 3 {
			l := slices.DeleteFunc(r.Perm(n), func(int) bool { return r.Intn(4) == 0 })
			by := make([]int, n)
			for k := range by {
				by[k] = r.Intn(30) - 15
			}
			hold(t, g, l, by)
			if !slices.Equal(topo(g, l), author(g, l, times(g))) && !slices.Equal(plain(g, l), author(g, l, times(g))) {
				differ++
			}
		}
	}
	if differ < 300 {
		t.Error("the orders were others of one list only", differ)
	}
}

func TestFullGraphs(t *testing.T) {
	r := rand.New(rand.NewSource(152))
	for range 6 {
		hold(t, nearGraph(r, 128), r.Perm(128), r.Perm(128))
		hold(t, anyGraph(r, 128, 6, 1<<40), r.Perm(128)[:100], r.Perm(128))
	}
}

// P15.4: what follows

func TestEachOnceAndChildrenAhead(t *testing.T) {
	r := rand.New(rand.NewSource(153))
	for range 400 {
		n := r.Intn(129)
		g := anyGraph(r, n, 3, 40)
		if r.Intn(2) == 0 {
			g = nearGraph(r, n)
		}
		l := append(r.Perm(n)[:r.Intn(n+1)], r.Perm(n)[:r.Intn(n+1)]...)
		want := slices.Compact(slices.Sorted(slices.Values(l)))
		for _, c := range calls {
			told, e := c.ask(g, l, r.Perm(n))
			is(t, c.what, slices.Sorted(slices.Values(told)), e, want, api.OK)
			if c.what != "Plain" {
				holdChildrenAhead(t, g, told)
			}
		}
	}
}

// holdChildrenAhead asks of each two that are told which one is the other one's parent.
func holdChildrenAhead(t *testing.T, g []api.Node, told []int) {
	t.Helper()
	for k, n := range told {
		for _, later := range told[k:] {
			if slices.Contains(g[later].Parents, n) {
				t.Fatalf("%d is told ahead of its child %d: %v in %v", n, later, told, g)
			}
		}
	}
}

// what a list is, and what is left of it

func TestHowAListStandsDoesNotMatter(t *testing.T) {
	r := rand.New(rand.NewSource(154))
	for range 100 {
		g := nearGraph(r, 1+r.Intn(30))
		l := r.Perm(len(g))[:r.Intn(len(g)+1)]
		other := append(slices.Clone(l), l[:r.Intn(len(l)+1)]...)
		r.Shuffle(len(other), func(a, b int) { other[a], other[b] = other[b], other[a] })
		by := r.Perm(len(g))
		for _, c := range calls {
			x, e := c.ask(g, l, by)
			y, e2 := c.ask(g, other, by)
			is(t, c.what, y, e2, x, e)
		}
	}
}

func TestLongLists(t *testing.T) {
	r := rand.New(rand.NewSource(155))
	g := nearGraph(r, 128)
	l := make([]int, 1<<20)
	for k := range l {
		l[k] = 5 + r.Intn(123)
	}
	by := r.Perm(128)
	some := upTo(128)[5:]
	for _, c := range calls {
		want, _ := c.ask(g, some, by)
		x, e := c.ask(g, l, by)
		is(t, c.what, x, e, want, api.OK)
	}
	l[len(l)-1] = 128
	for _, c := range calls {
		x, e := c.ask(g, l, by)
		is(t, c.what, x, e, nil, api.ErrArg)
	}
}

// roomy is the same list with spare room, in which numbers stand.
func roomy(l []int) []int {
	return append(append(make([]int, 0, len(l)+8), l...), 77, 78, 79, 80, 81, 82, 83, 84)[:len(l)]
}

// whole is a list with its spare room.
func whole(l []int) []int { return slices.Clone(l[:cap(l)]) }

// wholeGraph is a graph's nodes and their parents, with their spare room.
func wholeGraph(g []api.Node) [][]int {
	var all [][]int
	for _, node := range g[:cap(g)] {
		all = append(all, append(whole(node.Parents), node.Time))
	}
	return all
}

func TestNothingIsChanged(t *testing.T) {
	r := rand.New(rand.NewSource(156))
	for range 100 {
		n := 1 + r.Intn(40)
		g := append(nearGraph(r, n), api.Node{Parents: []int{5}, Time: 7})[:n]
		for k := range g {
			g[k].Parents = roomy(g[k].Parents)
		}
		l := roomy(append(r.Perm(n), r.Perm(n)[:n/2]...))
		by := roomy(r.Perm(n))
		nodes, list, numbers := wholeGraph(g), whole(l), whole(by)
		for _, c := range calls {
			x, _ := c.ask(g, l, by)
			y, _ := c.ask(g, l, by)
			again := slices.Clone(y)
			for k := range x[:cap(x)] {
				x[:cap(x)][k] = -9
			}
			is(t, c.what+" beside another answer", y, api.OK, again, api.OK)
			if !slices.EqualFunc(wholeGraph(g), nodes, slices.Equal[[]int]) || !slices.Equal(whole(l), list) || !slices.Equal(whole(by), numbers) {
				t.Fatal(c.what, "changed what was handed in")
			}
			z, e := c.ask(g, l, by)
			is(t, c.what+" asked again", z, e, again, api.OK)
		}
	}
}

func TestAnswersAreKeptFromWhatIsHandedIn(t *testing.T) {
	g := at(of(nil, []int{0}, []int{0}, []int{1, 2}), 0, 5, 1, 6)
	l, by := []int{0, 1, 2, 3}, []int{0, 1, 5, 6}
	for _, c := range calls {
		x, _ := c.ask(slices.Clone(g), slices.Clone(l), slices.Clone(by))
		m, list, numbers := slices.Clone(g), slices.Clone(l), slices.Clone(by)
		y, _ := c.ask(m, list, numbers)
		clear(m)
		clear(list)
		clear(numbers)
		is(t, c.what, y, api.OK, x, api.OK)
	}
}
