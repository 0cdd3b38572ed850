package dag_test

import (
	"math"
	"math/rand"
	"slices"
	"testing"

	"sleuth/api"
	"sleuth/dag"
)

// of is a graph of nodes with these parents.
func of(parents ...[]int) []api.Node {
	var g []api.Node
	for _, p := range parents {
		g = append(g, api.Node{Parents: p})
	}
	return g
}

// line is n nodes, each one's parent the one below it.
func line(n int) []api.Node {
	g := make([]api.Node, n)
	for k := 1; k < n; k++ {
		g[k].Parents = []int{k - 1}
	}
	return g
}

// ladder is n nodes, each one's parents those below it, up to so many, the nearest first or last.
func ladder(n, most int) []api.Node {
	g := make([]api.Node, n)
	for k := range g {
		for p := k - 1; p >= 0 && p >= k-most; p-- {
			g[k].Parents = append(g[k].Parents, p)
		}
		if k%2 == 1 {
			slices.Reverse(g[k].Parents)
		}
	}
	return g
}

// anyGraph is one of n nodes with up to so many parents each, in any order, of any times.
func anyGraph(r *rand.Rand, n, most int) []api.Node {
	g := make([]api.Node, n)
	for k := range g {
		g[k].Time = int(r.Int63n(1<<40 + 1))
		g[k].Parents = r.Perm(k)[:r.Intn(min(k, most)+1)]
	}
	return g
}

// nearGraph is one whose nodes have parents not far below them, or none.
func nearGraph(r *rand.Rand, n int) []api.Node {
	g := make([]api.Node, n)
	for k := range g {
		for _, d := range r.Perm(8)[:r.Intn(3)] {
			if d < k {
				g[k].Parents = append(g[k].Parents, k-1-d)
			}
		}
	}
	return g
}

// smallGraphs are all of n nodes, whose parents rise.
func smallGraphs(n int) [][]api.Node {
	if n == 0 {
		return [][]api.Node{{}}
	}
	var all [][]api.Node
	for _, g := range smallGraphs(n - 1) {
		for _, parents := range subsets(n - 1) {
			all = append(all, append(slices.Clone(g), api.Node{Parents: parents}))
		}
	}
	return all
}

// subsets are all lists of numbers below n that rise.
func subsets(n int) [][]int {
	all := make([][]int, 1<<n)
	for bits := range all {
		for k := range n {
			if bits>>k&1 == 1 {
				all[bits] = append(all[bits], k)
			}
		}
	}
	return all
}

// anyNumbers are up to n numbers of nodes of g.
func anyNumbers(r *rand.Rand, g []api.Node, n int) []int {
	var l []int
	if len(g) == 0 {
		return l
	}
	for range r.Intn(n + 1) {
		l = append(l, r.Intn(len(g)))
	}
	return l
}

// model is which nodes are which ones' ancestors, by the words of the chapter: above[b][a] is whether a is one of b.
type model struct {
	above [][]bool
}

// modelOf goes each way up, node by node.
func modelOf(g []api.Node) model {
	m := model{above: make([][]bool, len(g))}
	for b := range g {
		m.above[b] = make([]bool, len(g))
		m.above[b][b] = true
		for _, p := range g[b].Parents {
			for a, is := range m.above[p] {
				m.above[b][a] = m.above[b][a] || is
			}
		}
	}
	return m
}

// where are the numbers that something holds of, rising.
func (m model) where(is func(n int) bool) []int {
	var l []int
	for n := range m.above {
		if is(n) {
			l = append(l, n)
		}
	}
	return l
}

// ofAny asks whether a is an ancestor of any of l.
func (m model) ofAny(a int, l []int) bool {
	return slices.ContainsFunc(l, func(b int) bool { return m.above[b][a] })
}

// all is what Above tells.
func (m model) all(from []int) []int {
	return m.where(func(n int) bool { return m.ofAny(n, from) })
}

// heads is what Heads tells.
func (m model) heads(l []int) []int {
	return m.where(func(n int) bool {
		return slices.Contains(l, n) && !slices.ContainsFunc(l, func(b int) bool { return b != n && m.above[b][n] })
	})
}

// bases is what Bases tells.
func (m model) bases(a, b int) []int {
	return m.heads(m.where(func(n int) bool { return m.above[a][n] && m.above[b][n] }))
}

// between is what Range tells.
func (m model) between(with, without []int) []int {
	return m.where(func(n int) bool { return m.ofAny(n, with) && !m.ofAny(n, without) })
}

// is fails a test where a list, or the error, is another one.
func is(t *testing.T, what string, l []int, e api.Errno, want []int, wantE api.Errno) {
	t.Helper()
	if !slices.Equal(l, want) || e != wantE {
		t.Fatalf("%s: %v, %v, want %v, %v", what, l, e, want, wantE)
	}
}

// answers are what all calls but Check tell of a graph and numbers; the single ones are the lists' first, or 0.
func answers(g []api.Node, l, other []int) ([][]int, []api.Errno) {
	a, b := 0, 0
	if len(l) > 0 {
		a = l[0]
	}
	if len(other) > 0 {
		b = other[0]
	}
	gens, e1 := dag.Gens(g)
	children, e2 := dag.Children(g)
	above, e3 := dag.Above(g, l...)
	yes, e4 := dag.Is(g, a, b)
	bases, e5 := dag.Bases(g, a, b)
	heads, e6 := dag.Heads(g, l)
	between, e7 := dag.Range(g, l, other)
	lists := append([][]int{gens, above, bases, heads, between}, children...)
	if yes {
		lists = append(lists, []int{1})
	}
	return lists, []api.Errno{e1, e2, e3, e4, e5, e6, e7}
}

// P14.1: which graphs are right

// shapes are graphs by what is to be said of them.
var shapes = []struct {
	what string
	g    []api.Node
	want api.Errno
}{
	{"no list", nil, api.OK},
	{"an empty list", []api.Node{}, api.OK},
	{"one node", of(nil), api.OK},
	{"one node with an empty list", of([]int{}), api.OK},
	{"nodes without parents", of(nil, nil, nil), api.OK},
	{"the chapter's", of(nil, []int{0}, []int{0}, []int{1, 2}), api.OK},
	{"parents that fall", of(nil, nil, nil, []int{2, 1, 0}), api.OK},
	{"parents in any order", of(nil, nil, nil, []int{1, 2, 0}), api.OK},
	{"128 nodes", line(128), api.OK},
	{"129 nodes", line(129), api.ErrForm},
	{"129 nodes without parents", make([]api.Node, 129), api.ErrForm},
	{"many nodes", make([]api.Node, 1<<20), api.ErrForm},
	{"6 parents", of(nil, nil, nil, nil, nil, nil, []int{0, 1, 2, 3, 4, 5}), api.OK},
	{"7 parents", of(nil, nil, nil, nil, nil, nil, nil, []int{0, 1, 2, 3, 4, 5, 6}), api.ErrForm},
	{"7 parents, two of them alike", of(nil, nil, nil, nil, nil, nil, []int{0, 1, 2, 3, 4, 5, 5}), api.ErrForm},
	{"6 parents everywhere", ladder(128, 6), api.OK},
	{"7 parents everywhere", ladder(128, 7), api.ErrForm},
	{"its own parent", of([]int{0}), api.ErrForm},
	{"its own parent, further on", of(nil, nil, []int{2}), api.ErrForm},
	{"a parent above it", of([]int{1}, nil), api.ErrForm},
	{"a parent that is none's number", of(nil, []int{7}), api.ErrForm},
	{"a parent below 0", of(nil, []int{-1}), api.ErrForm},
	{"the least parent", of(nil, []int{math.MinInt}), api.ErrForm},
	{"the greatest parent", of(nil, []int{math.MaxInt}), api.ErrForm},
	{"a wrong one ahead of a right one", of(nil, nil, []int{2, 0}), api.ErrForm},
	{"a wrong one behind a right one", of(nil, nil, []int{1, -1}), api.ErrForm},
	{"a wrong one between right ones", of(nil, nil, nil, []int{1, 3, 0}), api.ErrForm},
	{"a parent twice", of(nil, []int{0, 0}), api.ErrForm},
	{"a parent twice, another one between", of(nil, nil, nil, []int{1, 2, 1}), api.ErrForm},
	{"a parent twice, the first and the last", of(nil, nil, nil, nil, nil, nil, []int{5, 4, 3, 2, 1, 5}), api.ErrForm},
	{"a parent twice behind others", of(nil, nil, nil, []int{2, 1, 1}), api.ErrForm},
	{"parents that others have, too", of(nil, nil, []int{0, 1}, []int{0, 1}), api.OK},
	{"no time", []api.Node{{Time: 0}}, api.OK},
	{"a time", []api.Node{{Time: 5}}, api.OK},
	{"the greatest time", []api.Node{{Time: 1 << 40}}, api.OK},
	{"one more", []api.Node{{Time: 1<<40 + 1}}, api.ErrForm},
	{"a time of all bits", []api.Node{{Time: math.MaxInt}}, api.ErrForm},
	{"a time below 0", []api.Node{{Time: -1}}, api.ErrForm},
	{"the least time", []api.Node{{Time: math.MinInt}}, api.ErrForm},
	{"times that fall", []api.Node{{Time: 9}, {Time: 3, Parents: []int{0}}, {Time: 3}}, api.OK},
	{"a wrong time further on", []api.Node{{Time: 9}, {Time: -3, Parents: []int{0}}, {Time: 3}}, api.ErrForm},
}

func TestCheck(t *testing.T) {
	for _, s := range shapes {
		if e := dag.Check(s.g); e != s.want {
			t.Errorf("%s: %v, want %v", s.what, e, s.want)
		}
	}
}

func TestCheckOfEachNumberOfNodes(t *testing.T) {
	for n := range 300 {
		want := api.OK
		if n > 128 {
			want = api.ErrForm
		}
		if e := dag.Check(make([]api.Node, n)); e != want {
			t.Errorf("%d nodes: %v, want %v", n, e, want)
		}
		if e := dag.Check(line(n)); e != want {
			t.Errorf("%d nodes in a line: %v, want %v", n, e, want)
		}
	}
}

func TestCheckOfEachParent(t *testing.T) {
	for n := range 20 {
		for p := -3; p < 25; p++ {
			g := line(20)
			g[n].Parents = []int{p}
			want := api.ErrForm
			if 0 <= p && p < n {
				want = api.OK
			}
			if e := dag.Check(g); e != want {
				t.Errorf("%d of %d: %v, want %v", n, p, e, want)
			}
		}
	}
}

// rightParents asks whether a node of that number may have these parents, by the words of the chapter.
func rightParents(number int, parents []int) bool {
	seen := map[int]bool{}
	for _, p := range parents {
		if p < 0 || p >= number || seen[p] {
			return false
		}
		seen[p] = true
	}
	return len(parents) <= 6
}

func TestCheckOfAnyParents(t *testing.T) {
	r := rand.New(rand.NewSource(141))
	told := map[api.Errno]int{}
	for range 20000 {
		g := line(12)
		n := r.Intn(12)
		g[n].Parents = nil
		for range r.Intn(9) {
			g[n].Parents = append(g[n].Parents, r.Intn(14)-1)
		}
		if r.Intn(2) == 0 && n > 0 {
			g[n].Parents = r.Perm(n)
		}
		want := api.ErrForm
		if rightParents(n, g[n].Parents) {
			want = api.OK
		}
		told[want]++
		if e := dag.Check(g); e != want {
			t.Fatalf("%d of %v: %v, want %v", n, g[n].Parents, e, want)
		}
	}
	if told[api.OK] < 1000 || told[api.ErrForm] < 1000 {
		t.Error(told)
	}
}

func TestAllAskTheGraphFirst(t *testing.T) {
	numbers := [][]int{nil, {0}, {0, 0}, {-1}, {7000}, {math.MinInt, math.MaxInt}}
	for _, s := range shapes {
		if s.want == api.OK {
			continue
		}
		for _, l := range numbers {
			for _, other := range numbers {
				lists, errs := answers(s.g, l, other)
				for _, e := range errs {
					if e != api.ErrForm {
						t.Errorf("%s, %v, %v: %v", s.what, l, other, errs)
					}
				}
				for _, x := range lists {
					if len(x) != 0 {
						t.Errorf("%s, %v, %v: %v beside an error", s.what, l, other, lists)
					}
				}
			}
		}
		if l, _ := dag.Children(s.g); len(l) != 0 {
			t.Errorf("%s: %v beside an error", s.what, l)
		}
	}
}

func TestNumbersThatAreNoNodes(t *testing.T) {
	for n := range 4 {
		g := line(n)
		for _, wrong := range []int{-1, -2, n, n + 1, 127, 128, math.MinInt, math.MaxInt, math.MinInt32, math.MaxInt32, 1 << 32} {
			for k := range n {
				right := k
				ask := func(what string, l []int, yes bool, e api.Errno) {
					t.Helper()
					if len(l) != 0 || yes || e != api.ErrArg {
						t.Errorf("%s of %d, %d of %d: %v, %v, %v", what, wrong, right, n, l, yes, e)
					}
				}
				both := [][]int{{wrong}, {wrong, right}, {right, wrong}, {right, wrong, right}, {right, right, right, wrong}}
				for _, l := range both {
					above, e := dag.Above(g, l...)
					ask("Above", above, false, e)
					heads, e := dag.Heads(g, l)
					ask("Heads", heads, false, e)
					for _, other := range [][]int{nil, {right}, {wrong}} {
						between, e := dag.Range(g, l, other)
						ask("Range", between, false, e)
						between, e = dag.Range(g, other, l)
						ask("Range without", between, false, e)
					}
				}
				for _, pair := range [][2]int{{wrong, right}, {right, wrong}, {wrong, wrong}} {
					yes, e := dag.Is(g, pair[0], pair[1])
					ask("Is", nil, yes, e)
					bases, e := dag.Bases(g, pair[0], pair[1])
					ask("Bases", bases, false, e)
				}
			}
		}
	}
}

func TestNoNodes(t *testing.T) {
	for _, g := range [][]api.Node{nil, {}} {
		for _, l := range [][]int{nil, {}} {
			gens, e := dag.Gens(g)
			is(t, "Gens", gens, e, nil, api.OK)
			above, e := dag.Above(g, l...)
			is(t, "Above", above, e, nil, api.OK)
			heads, e := dag.Heads(g, l)
			is(t, "Heads", heads, e, nil, api.OK)
			between, e := dag.Range(g, l, l)
			is(t, "Range", between, e, nil, api.OK)
		}
		if l, e := dag.Children(g); len(l) != 0 || e != api.OK {
			t.Error(l, e)
		}
		if yes, e := dag.Is(g, 0, 0); yes || e != api.ErrArg {
			t.Error(yes, e)
		}
		bases, e := dag.Bases(g, 0, 0)
		is(t, "Bases", bases, e, nil, api.ErrArg)
		heads, e := dag.Heads(g, []int{0})
		is(t, "Heads", heads, e, nil, api.ErrArg)
	}
}

// P14.2: generations, children, ancestors

// diamond is the chapter's graph.
var diamond = of(nil, []int{0}, []int{0}, []int{1, 2})

// crossed is where two nodes meet in two others, and one stands alone.
var crossed = of(nil, []int{0}, []int{0}, []int{1, 2}, []int{2, 1}, nil)

func TestGens(t *testing.T) {
	for _, c := range []struct {
		g    []api.Node
		want []int
	}{
		{of(nil), []int{1}},
		{of(nil, nil), []int{1, 1}},
		{diamond, []int{1, 2, 2, 3}},
		{crossed, []int{1, 2, 2, 3, 3, 1}},
		{of(nil, []int{0}, []int{1}, []int{0, 2}), []int{1, 2, 3, 4}},
		{of(nil, []int{0}, []int{1}, []int{2, 0}), []int{1, 2, 3, 4}},
		{of(nil, []int{0}, []int{1}, nil, []int{3, 2, 1}), []int{1, 2, 3, 1, 4}},
		{ladder(5, 6), []int{1, 2, 3, 4, 5}},
	} {
		l, e := dag.Gens(c.g)
		is(t, "Gens", l, e, c.want, api.OK)
	}
	l, _ := dag.Gens(line(128))
	for n, gen := range l {
		if gen != n+1 {
			t.Fatalf("%d of a line: %d", n, gen)
		}
	}
}

func TestChildren(t *testing.T) {
	for _, c := range []struct {
		g    []api.Node
		want [][]int
	}{
		{of(nil), [][]int{nil}},
		{of(nil, nil), [][]int{nil, nil}},
		{diamond, [][]int{{1, 2}, {3}, {3}, nil}},
		{crossed, [][]int{{1, 2}, {3, 4}, {3, 4}, nil, nil, nil}},
		{of(nil, nil, []int{1}, []int{1, 0}, []int{0}), [][]int{{3, 4}, {2, 3}, nil, nil, nil}},
	} {
		l, e := dag.Children(c.g)
		if !slices.EqualFunc(l, c.want, slices.Equal[[]int]) || e != api.OK {
			t.Errorf("%v, %v, want %v", l, e, c.want)
		}
	}
}

func TestAbove(t *testing.T) {
	for _, c := range []struct {
		g    []api.Node
		from []int
		want []int
	}{
		{diamond, nil, nil},
		{diamond, []int{}, nil},
		{diamond, []int{0}, []int{0}},
		{diamond, []int{1}, []int{0, 1}},
		{diamond, []int{2, 1}, []int{0, 1, 2}},
		{diamond, []int{3}, []int{0, 1, 2, 3}},
		{diamond, []int{0, 0, 0}, []int{0}},
		{diamond, []int{1, 0, 1}, []int{0, 1}},
		{crossed, []int{5}, []int{5}},
		{crossed, []int{5, 1}, []int{0, 1, 5}},
		{of(nil, nil, []int{0}, []int{1}), []int{3}, []int{1, 3}},
		{of(nil, nil, []int{0}, []int{1}), []int{2}, []int{0, 2}},
	} {
		l, e := dag.Above(c.g, c.from...)
		is(t, "Above", l, e, c.want, api.OK)
	}
}

func TestIs(t *testing.T) {
	for _, c := range []struct {
		g    []api.Node
		a, b int
		want bool
	}{
		{diamond, 0, 0, true},
		{diamond, 3, 3, true},
		{diamond, 0, 3, true},
		{diamond, 1, 3, true},
		{diamond, 2, 3, true},
		{diamond, 3, 0, false},
		{diamond, 3, 1, false},
		{diamond, 1, 2, false},
		{diamond, 2, 1, false},
		{crossed, 5, 4, false},
		{crossed, 0, 5, false},
		{crossed, 3, 4, false},
		{line(128), 0, 127, true},
		{line(128), 127, 0, false},
		{line(128), 127, 127, true},
	} {
		if yes, e := dag.Is(c.g, c.a, c.b); yes != c.want || e != api.OK {
			t.Errorf("%d of %d: %v, %v", c.a, c.b, yes, e)
		}
	}
}

// P14.3: heads, bases, ranges

func TestHeads(t *testing.T) {
	for _, c := range []struct {
		g    []api.Node
		l    []int
		want []int
	}{
		{diamond, nil, nil},
		{diamond, []int{}, nil},
		{diamond, []int{0}, []int{0}},
		{diamond, []int{0, 0}, []int{0}},
		{diamond, []int{2, 1}, []int{1, 2}},
		{diamond, []int{2, 1, 2, 1, 1}, []int{1, 2}},
		{diamond, []int{0, 1, 2}, []int{1, 2}},
		{diamond, []int{0, 1, 2, 3}, []int{3}},
		{diamond, []int{3, 0}, []int{3}},
		{crossed, []int{0, 3, 5, 3}, []int{3, 5}},
		{crossed, []int{5, 4, 3, 2, 1, 0}, []int{3, 4, 5}},
		{line(128), []int{0, 127, 64}, []int{127}},
	} {
		l, e := dag.Heads(c.g, c.l)
		is(t, "Heads", l, e, c.want, api.OK)
	}
}

func TestBases(t *testing.T) {
	for _, c := range []struct {
		g    []api.Node
		a, b int
		want []int
	}{
		{diamond, 1, 2, []int{0}},
		{diamond, 3, 2, []int{2}},
		{diamond, 3, 1, []int{1}},
		{diamond, 3, 0, []int{0}},
		{diamond, 0, 0, []int{0}},
		{diamond, 3, 3, []int{3}},
		{crossed, 3, 4, []int{1, 2}},
		{crossed, 3, 5, nil},
		{crossed, 0, 5, nil},
		{of(nil, nil, nil, []int{0, 1, 2}, []int{2, 1, 0}), 3, 4, []int{0, 1, 2}},
		// 1 is met by both, and 0 by a way of its own, too: it is 1's ancestor.
		{of(nil, []int{0}, []int{0, 1}, []int{1}), 2, 3, []int{1}},
		{of(nil, []int{0}, []int{1}, []int{0, 2}, []int{1}), 3, 4, []int{1}},
		// 2 is a base, and so is 1, which is none of its ancestors, 0 of both.
		{of(nil, []int{0}, []int{0}, []int{2, 1}, []int{1, 2, 0}), 3, 4, []int{1, 2}},
		{line(128), 100, 127, []int{100}},
	} {
		l, e := dag.Bases(c.g, c.a, c.b)
		is(t, "Bases", l, e, c.want, api.OK)
		l, e = dag.Bases(c.g, c.b, c.a)
		is(t, "Bases the other way", l, e, c.want, api.OK)
	}
}

func TestRange(t *testing.T) {
	for _, c := range []struct {
		g             []api.Node
		with, without []int
		want          []int
	}{
		{diamond, nil, nil, nil},
		{diamond, nil, []int{0}, nil},
		{diamond, []int{3}, nil, []int{0, 1, 2, 3}},
		{diamond, []int{3}, []int{}, []int{0, 1, 2, 3}},
		{diamond, []int{3}, []int{1}, []int{2, 3}},
		{diamond, []int{3}, []int{1, 2}, []int{3}},
		{diamond, []int{3}, []int{3}, nil},
		{diamond, []int{1}, []int{3}, nil},
		{diamond, []int{1, 2}, []int{0}, []int{1, 2}},
		{diamond, []int{2, 1, 2}, []int{0, 0}, []int{1, 2}},
		{diamond, []int{1, 2}, []int{2}, []int{1}},
		{crossed, []int{4, 5}, []int{3}, []int{4, 5}},
		{crossed, []int{4}, []int{5}, []int{0, 1, 2, 4}},
		{line(128), []int{5}, []int{3}, []int{4, 5}},
	} {
		l, e := dag.Range(c.g, c.with, c.without)
		is(t, "Range", l, e, c.want, api.OK)
	}
}

// P14.2 and P14.3 against the chapter's words

// holdPair asks Is and Bases of two nodes.
func holdPair(t *testing.T, g []api.Node, m model, a, b int) {
	t.Helper()
	if yes, e := dag.Is(g, a, b); yes != m.above[b][a] || e != api.OK {
		t.Fatalf("%d of %d in %v: %v, %v", a, b, g, yes, e)
	}
	if l, e := dag.Bases(g, a, b); !slices.Equal(l, m.bases(a, b)) || e != api.OK {
		t.Fatalf("Bases of %d and %d in %v: %v, %v", a, b, g, l, e)
	}
}

// holdLists asks Above, Heads and Range of two lists.
func holdLists(t *testing.T, g []api.Node, m model, l, other []int) {
	t.Helper()
	if x, e := dag.Above(g, l...); !slices.Equal(x, m.all(l)) || e != api.OK {
		t.Fatalf("Above %v in %v: %v, %v", l, g, x, e)
	}
	if x, e := dag.Heads(g, l); !slices.Equal(x, m.heads(l)) || e != api.OK {
		t.Fatalf("Heads of %v in %v: %v, %v", l, g, x, e)
	}
	if x, e := dag.Range(g, l, other); !slices.Equal(x, m.between(l, other)) || e != api.OK {
		t.Fatalf("Range of %v without %v in %v: %v, %v", l, other, g, x, e)
	}
}

// holdNodes asks Check, Gens and Children.
func holdNodes(t *testing.T, g []api.Node) {
	t.Helper()
	if e := dag.Check(g); e != api.OK {
		t.Fatal(g, e)
	}
	gens, e := dag.Gens(g)
	children, e2 := dag.Children(g)
	if len(gens) != len(g) || len(children) != len(g) || e != api.OK || e2 != api.OK {
		t.Fatal(g, gens, e, children, e2)
	}
	for n, node := range g {
		want := 1
		for _, p := range node.Parents {
			want = max(want, gens[p]+1)
		}
		if gens[n] != want {
			t.Fatalf("Gens of %v: %v", g, gens)
		}
		var l []int
		for k := range g {
			if slices.Contains(g[k].Parents, n) {
				l = append(l, k)
			}
		}
		if !slices.Equal(children[n], l) {
			t.Fatalf("Children of %v: %v", g, children)
		}
	}
}

func TestAllSmallGraphs(t *testing.T) {
	for n := range 6 {
		lists := subsets(n)
		for _, g := range smallGraphs(n) {
			m := modelOf(g)
			holdNodes(t, g)
			for a := range n {
				for b := range n {
					holdPair(t, g, m, a, b)
				}
			}
			for k, l := range lists {
				holdLists(t, g, m, l, lists[len(lists)-1-k])
				holdLists(t, g, m, l, lists[(k+1)%len(lists)])
			}
		}
	}
}

func TestAllRangesOfFourNodes(t *testing.T) {
	lists := subsets(4)
	for _, g := range smallGraphs(4) {
		m := modelOf(g)
		for _, l := range lists {
			for _, other := range lists {
				holdLists(t, g, m, l, other)
			}
		}
	}
}

func TestAnyGraphs(t *testing.T) {
	r := rand.New(rand.NewSource(142))
	most := 0
	for range 400 {
		n := r.Intn(129)
		g := anyGraph(r, n, 1+r.Intn(6))
		if r.Intn(2) == 0 {
			g = nearGraph(r, n)
		}
		m := modelOf(g)
		holdNodes(t, g)
		for range 30 {
			if n > 0 {
				a, b := r.Intn(n), r.Intn(n)
				holdPair(t, g, m, a, b)
				most = max(most, len(m.bases(a, b)))
			}
			holdLists(t, g, m, anyNumbers(r, g, 6), anyNumbers(r, g, 4))
		}
		holdLists(t, g, m, anyNumbers(r, g, 300), anyNumbers(r, g, 3))
	}
	if most < 4 {
		t.Error("no two nodes had more bases than", most)
	}
}

func TestManyWaysUp(t *testing.T) {
	for _, most := range []int{1, 2, 6} {
		g := ladder(128, most)
		m := modelOf(g)
		holdNodes(t, g)
		for _, pair := range [][2]int{{127, 127}, {127, 126}, {126, 127}, {0, 127}, {127, 0}, {64, 100}} {
			holdPair(t, g, m, pair[0], pair[1])
		}
		holdLists(t, g, m, []int{127, 3, 90}, []int{60})
		holdLists(t, g, m, []int{127}, nil)
	}
}

func TestLongLists(t *testing.T) {
	g := ladder(128, 3)
	m := modelOf(g)
	r := rand.New(rand.NewSource(143))
	l := make([]int, 1<<18)
	other := make([]int, 1<<18)
	for k := range l {
		l[k], other[k] = 20+r.Intn(108), r.Intn(50)
	}
	between, e := dag.Range(g, l, other)
	is(t, "Range", between, e, m.between([]int{127}, []int{49}), api.OK)
	heads, e := dag.Heads(g, l)
	is(t, "Heads", heads, e, []int{127}, api.OK)
	l[len(l)-1] = 128
	between, e = dag.Range(g, l, other)
	is(t, "Range", between, e, nil, api.ErrArg)
	between, e = dag.Range(g, other, l)
	is(t, "Range", between, e, nil, api.ErrArg)
}

// P14.4: what follows

func TestBasesOfANodeAndItsAncestor(t *testing.T) {
	r := rand.New(rand.NewSource(144))
	for range 100 {
		g := anyGraph(r, 1+r.Intn(60), 3)
		b := r.Intn(len(g))
		l, _ := dag.Above(g, b)
		for _, a := range l {
			x, e := dag.Bases(g, a, b)
			is(t, "Bases", x, e, []int{a}, api.OK)
			x, e = dag.Bases(g, b, a)
			is(t, "Bases the other way", x, e, []int{a}, api.OK)
		}
	}
}

func TestGenerationsRise(t *testing.T) {
	r := rand.New(rand.NewSource(145))
	for range 200 {
		g := nearGraph(r, 1+r.Intn(128))
		gens, _ := dag.Gens(g)
		for b := range g {
			l, _ := dag.Above(g, b)
			for _, a := range l {
				if a != b && gens[a] >= gens[b] {
					t.Fatalf("%d is above %d in %v: %v", a, b, g, gens)
				}
			}
		}
	}
}

func TestTimesAndTheParentsOrderDoNotCount(t *testing.T) {
	r := rand.New(rand.NewSource(146))
	for range 200 {
		g := anyGraph(r, 1+r.Intn(40), 5)
		turned := slices.Clone(g)
		for n := range turned {
			turned[n].Time = r.Intn(3)
			turned[n].Parents = slices.Clone(g[n].Parents)
			r.Shuffle(len(turned[n].Parents), func(i, k int) {
				p := turned[n].Parents
				p[i], p[k] = p[k], p[i]
			})
		}
		l, other := anyNumbers(r, g, 5), anyNumbers(r, g, 5)
		one, _ := answers(g, l, other)
		two, _ := answers(turned, l, other)
		if !slices.EqualFunc(one, two, slices.Equal[[]int]) {
			t.Fatalf("%v and %v: %v, %v", g, turned, one, two)
		}
	}
}

// R3

// roomy is a list with spare room, which is filled.
func roomy(l ...int) []int { return append(slices.Clone(l), 90, 91, 92)[:len(l)] }

func TestListsAreLeft(t *testing.T) {
	whole := []api.Node{{Time: 3}, {Parents: roomy(0)}, {Parents: roomy(0)}, {Parents: roomy(2, 1)}, {Parents: roomy(1, 0), Time: 4}, {Time: 77, Parents: roomy(5)}}
	g := whole[:5]
	l, other := roomy(4, 3, 0, 3), roomy(2, 1, 2)
	dag.Check(g)
	answers(g, l, other)
	answers(g, other, l)
	answers(whole, l, other)
	wantNodes := [][]int{nil, {0, 90, 91, 92}, {0, 90, 91, 92}, {2, 1, 90, 91, 92}, {1, 0, 90, 91, 92}, {5, 90, 91, 92}}
	for n, node := range whole {
		if node.Parents != nil && !slices.Equal(node.Parents[:len(node.Parents)+3], wantNodes[n]) {
			t.Errorf("node %d was changed: %v", n, node.Parents[:len(node.Parents)+3])
		}
	}
	for n, time := range []int{3, 0, 0, 0, 4, 77} {
		if whole[n].Time != time || len(whole[n].Parents) != max(0, len(wantNodes[n])-3) {
			t.Errorf("node %d was changed: %v", n, whole[n])
		}
	}
	if !slices.Equal(l[:7], []int{4, 3, 0, 3, 90, 91, 92}) || !slices.Equal(other[:6], []int{2, 1, 2, 90, 91, 92}) {
		t.Error("a list was changed:", l[:7], other[:6])
	}
}

func TestAnswersAreNew(t *testing.T) {
	g := []api.Node{{}, {Parents: []int{0}}, {Parents: []int{0}}, {Parents: []int{1, 2}}, {Parents: []int{2, 1}}, {Parents: []int{3}}}
	l, other := []int{1, 2, 4}, []int{3, 0}
	one, _ := answers(g, l, other)
	two, _ := answers(g, l, other)
	for _, x := range one {
		clear(x[:cap(x)])
	}
	for n, want := range [][]int{nil, {0}, {0}, {1, 2}, {2, 1}, {3}} {
		if !slices.Equal(g[n].Parents, want) {
			t.Error("an answer shares memory with the graph:", g)
		}
	}
	if !slices.Equal(l, []int{1, 2, 4}) || !slices.Equal(other, []int{3, 0}) {
		t.Error("an answer shares memory with a list:", l, other)
	}
	three, _ := answers(g, l, other)
	if !slices.EqualFunc(two, three, slices.Equal[[]int]) {
		t.Errorf("two answers share memory: %v, want %v", two, three)
	}
}

func TestChildrenShareNothing(t *testing.T) {
	g := ladder(40, 4)
	l, _ := dag.Children(g)
	want, _ := dag.Children(g)
	for n := range l {
		kept := slices.Clone(l[n])
		for _, x := range append(l[:n:n], l[n+1:]...) {
			x = x[:cap(x)]
			for k := range x {
				x[k] = -9
			}
		}
		if !slices.Equal(l[n], kept) {
			t.Fatalf("the children of %d share memory with others': %v", n, l[n])
		}
		l, _ = dag.Children(g)
	}
	if !slices.EqualFunc(l, want, slices.Equal[[]int]) {
		t.Error("two answers share memory:", want)
	}
}

func TestGraphsAreNotKept(t *testing.T) {
	g := line(6)
	l, _ := dag.Above(g, 5)
	children, _ := dag.Children(g)
	gens, _ := dag.Gens(g)
	for n := range g {
		if n > 0 {
			g[n].Parents[0] = 0
		}
	}
	if !slices.Equal(l, []int{0, 1, 2, 3, 4, 5}) || !slices.Equal(children[4], []int{5}) || !slices.Equal(gens, []int{1, 2, 3, 4, 5, 6}) {
		t.Error("answers changed with the graph:", l, children, gens)
	}
	l, e := dag.Above(g, 5)
	is(t, "Above", l, e, []int{0, 5}, api.OK)
}
