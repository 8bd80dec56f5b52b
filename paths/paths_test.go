package paths

import (
	"math"
	"math/rand"
	"slices"
	"testing"

	"assayer/api"
	"assayer/graph"
)

func edge(from, to, labels int) api.Edge { return api.Edge{From: from, To: to, Label: labels} }

func drawn(t *testing.T, n int, edges ...api.Edge) *graph.Graph {
	t.Helper()
	g, e := graph.New(n)
	if e != api.OK {
		t.Fatalf("New(%d): %d", n, e)
	}
	for _, x := range edges {
		if e := g.Add(x.From, x.To, x.Label); e != api.OK {
			t.Fatalf("Add(%v): %d", x, e)
		}
	}
	return g
}

// before tells whether a path goes ahead of another one by P8.1's words: the one with fewer nodes, then the lesser one, node by node.
func before(a, b []int) bool {
	if len(a) != len(b) {
		return len(a) < len(b)
	}
	return slices.Compare(a, b) < 0
}

// plainShortest makes longer and longer paths of all kinds, and keeps of those between two nodes the one that goes ahead of the others.
func plainShortest(g *graph.Graph, labels, from, to int) []int {
	best := make([][]int, g.Nodes()) // of each node that was reached, the first path to it
	ends := [][]int{{from}}
	for range g.Nodes() {
		var longer [][]int
		for _, path := range ends {
			for next := range g.Nodes() {
				if g.Labels(path[len(path)-1], next)&labels == 0 {
					continue
				}
				longer = append(longer, append(slices.Clone(path), next))
			}
		}
		ends = nil
		for _, path := range longer {
			end := path[len(path)-1]
			if best[end] == nil || before(path, best[end]) {
				best[end] = path
			}
		}
		for _, path := range longer {
			if slices.Equal(path, best[path[len(path)-1]]) {
				ends = append(ends, path)
			}
		}
	}
	return best[to]
}

// allPaths are all paths from a node to another one without a node twice, but for its ends.
func allPaths(g *graph.Graph, labels int, path []int, to int) [][]int {
	var l [][]int
	for next := range g.Nodes() {
		if g.Labels(path[len(path)-1], next)&labels == 0 {
			continue
		}
		on := append(slices.Clone(path), next)
		if next == to {
			l = append(l, on)
		} else if !slices.Contains(path, next) {
			l = append(l, allPaths(g, labels, on, to)...)
		}
	}
	return l
}

// check holds all answers of a graph against plain ones, and against P8.3 and P8.4.
func check(t *testing.T, g *graph.Graph, labels int, plain func(g *graph.Graph, labels, from, to int) []int) {
	t.Helper()
	for from := range g.Nodes() {
		var reached []int
		for to := range g.Nodes() {
			want := plain(g, labels, from, to)
			if want != nil {
				reached = append(reached, to)
			}
			got := Shortest(g, labels, from, to)
			if !slices.Equal(got, want) || want == nil && got != nil {
				t.Fatalf("%v: Shortest(%d, %d, %d): %v, and not %v", g.Edges(), labels, from, to, got, want)
			}
			if d := Distance(g, labels, from, to); d != len(want)-1 {
				t.Fatalf("%v: Distance(%d, %d, %d): %d, and not %d", g.Edges(), labels, from, to, d, len(want)-1)
			}
			noneTwice(t, got)
		}
		s, e := Reach(g, labels, from)
		if e != api.OK || s.Bound() != g.Nodes() || !slices.Equal(s.List(), reached) {
			t.Fatalf("%v: Reach(%d, %d): %v, %d, and not %v", g.Edges(), labels, from, s.List(), e, reached)
		}
	}
	noneLonger(t, g, labels)
}

// noneTwice goes by P8.3's words.
func noneTwice(t *testing.T, path []int) {
	t.Helper()
	for i, node := range path {
		if at := slices.Index(path[i+1:], node); at >= 0 && (i != 0 || i+1+at != len(path)-1) {
			t.Fatalf("%v has %d twice", path, node)
		}
	}
}

// noneLonger goes by P8.4's words.
func noneLonger(t *testing.T, g *graph.Graph, labels int) {
	t.Helper()
	for from := range g.Nodes() {
		for by := range g.Nodes() {
			first := Distance(g, labels, from, by)
			for to := range g.Nodes() {
				d, second := Distance(g, labels, from, to), Distance(g, labels, by, to)
				if first > 0 && second > 0 && (d < 0 || d > first+second) {
					t.Fatalf("%v: from %d to %d %d, by %d %d and %d", g.Edges(), from, to, d, by, first, second)
				}
			}
		}
	}
}

// firstOfAll is the first of all paths.
func firstOfAll(g *graph.Graph, labels, from, to int) []int {
	var first []int
	for _, path := range allPaths(g, labels, []int{from}, to) {
		if first == nil || before(path, first) {
			first = path
		}
	}
	return first
}

// P8.1: the chapter's example.
func TestExample(t *testing.T) {
	g := drawn(t, 4, edge(0, 2, 1), edge(2, 3, 1), edge(0, 1, 1), edge(1, 3, 1))
	if p := Shortest(g, 1, 0, 3); !slices.Equal(p, []int{0, 1, 3}) || Distance(g, 1, 0, 3) != 2 {
		t.Error(p)
	}
}

// P8.1: few nodes go ahead of lesser ones, and an earlier node ahead of a later one.
func TestShortest(t *testing.T) {
	for _, c := range []struct {
		n        int
		edges    []api.Edge
		from, to int
		want     []int
	}{
		{2, []api.Edge{edge(0, 1, 1)}, 0, 1, []int{0, 1}},
		{2, []api.Edge{edge(0, 1, 1)}, 1, 0, nil},
		{2, []api.Edge{edge(0, 1, 1)}, 0, 0, nil},
		{2, []api.Edge{edge(0, 1, 1), edge(1, 0, 1)}, 1, 1, []int{1, 0, 1}},
		{4, []api.Edge{edge(0, 1, 1), edge(1, 2, 1), edge(2, 3, 1), edge(0, 3, 1)}, 0, 3, []int{0, 3}},
		{6, []api.Edge{edge(0, 1, 1), edge(1, 4, 1), edge(0, 2, 1), edge(2, 3, 1), edge(3, 5, 1), edge(4, 5, 1)}, 0, 5, []int{0, 1, 4, 5}},
		{6, []api.Edge{edge(0, 3, 1), edge(3, 1, 1), edge(0, 2, 1), edge(2, 4, 1), edge(1, 5, 1), edge(4, 5, 1)}, 0, 5, []int{0, 2, 4, 5}},
		{5, []api.Edge{edge(4, 3, 1), edge(3, 2, 1), edge(2, 4, 1), edge(4, 1, 1), edge(1, 0, 1), edge(0, 4, 1)}, 4, 4, []int{4, 1, 0, 4}},
		// a way back to the beginning is no shorter way to what lies beyond it
		{4, []api.Edge{edge(0, 1, 1), edge(1, 0, 1), edge(1, 2, 1), edge(2, 3, 1)}, 0, 3, []int{0, 1, 2, 3}},
		{3, []api.Edge{edge(1, 2, 1), edge(2, 1, 1)}, 0, 2, nil},
	} {
		g := drawn(t, c.n, c.edges...)
		if p := Shortest(g, 1, c.from, c.to); !slices.Equal(p, c.want) {
			t.Errorf("%v: from %d to %d: %v", c.edges, c.from, c.to, p)
		}
		if d := Distance(g, 1, c.from, c.to); d != len(c.want)-1 {
			t.Errorf("%v: from %d to %d: %d", c.edges, c.from, c.to, d)
		}
		check(t, g, 1, firstOfAll)
	}
}

// P8.1, P8.2: an edge counts if it has at least one of the labels; what is no label counts nothing.
func TestLabels(t *testing.T) {
	g := drawn(t, 4, edge(0, 3, 8), edge(0, 1, 3), edge(1, 3, 6), edge(0, 2, 1), edge(2, 3, 5), edge(3, 0, 12))
	for labels := -18; labels < 36; labels++ {
		check(t, g, labels, firstOfAll)
	}
	for _, c := range []struct {
		labels int
		want   []int
	}{
		{0, nil}, {1, []int{0, 2, 3}}, {2, []int{0, 1, 3}}, {3, []int{0, 1, 3}}, {4, nil}, {6, []int{0, 1, 3}}, {8, []int{0, 3}},
		{15, []int{0, 3}}, {16, nil}, {17, []int{0, 2, 3}}, {-1, []int{0, 3}}, {math.MinInt, nil}, {math.MaxInt, []int{0, 3}},
	} {
		if p := Shortest(g, c.labels, 0, 3); !slices.Equal(p, c.want) || Distance(g, c.labels, 0, 3) != len(c.want)-1 {
			t.Errorf("Shortest(%d): %v", c.labels, p)
		}
	}
}

// P8.2: the node itself is reached if there is a way back to it alone.
func TestReach(t *testing.T) {
	g := drawn(t, 6, edge(0, 1, 1), edge(1, 2, 1), edge(2, 1, 2), edge(2, 3, 1), edge(4, 0, 1))
	for _, c := range []struct {
		labels, from int
		want         []int
	}{
		{1, 0, []int{1, 2, 3}}, {3, 1, []int{1, 2, 3}}, {1, 1, []int{2, 3}}, {2, 2, []int{1}}, {3, 2, []int{1, 2, 3}},
		{3, 3, nil}, {15, 4, []int{0, 1, 2, 3}}, {15, 5, nil}, {0, 0, nil},
	} {
		s, e := Reach(g, c.labels, c.from)
		if e != api.OK || s.Bound() != 6 || !slices.Equal(s.List(), c.want) {
			t.Errorf("Reach(%d, %d): %v, %d", c.labels, c.from, s.List(), e)
		}
	}
}

// P8.1, P8.2: of a node that is not there ErrNode, and no path.
func TestNoSuchNode(t *testing.T) {
	g := drawn(t, 3, edge(0, 1, 15), edge(1, 2, 15), edge(2, 0, 15))
	for _, at := range []int{-1, 3, 4, -3, 300, math.MinInt, math.MaxInt} {
		for _, labels := range []int{15, 0, -1} {
			if s, e := Reach(g, labels, at); s != nil || e != api.ErrNode {
				t.Errorf("Reach(%d, %d): %v, %d", labels, at, s, e)
			}
			for _, ends := range [][2]int{{at, 0}, {0, at}, {at, at}} {
				if p, d := Shortest(g, labels, ends[0], ends[1]), Distance(g, labels, ends[0], ends[1]); p != nil || d != -1 {
					t.Errorf("%v: %v, %d", ends, p, d)
				}
			}
		}
	}
}

// P8.1, P8.2: a graph without nodes.
func TestEmptyGraph(t *testing.T) {
	g := drawn(t, 0)
	for _, at := range []int{0, 1, -1} {
		if s, e := Reach(g, 15, at); s != nil || e != api.ErrNode {
			t.Error(s, e)
		}
		if p, d := Shortest(g, 15, at, at), Distance(g, 15, at, at); p != nil || d != -1 {
			t.Error(p, d)
		}
	}
}

// P8.1 to P8.4 of all graphs of up to four nodes.
func TestAllSmallGraphs(t *testing.T) {
	for n := range 5 {
		for chosen := range 1 << (n * n) {
			g := drawn(t, n)
			fits := true
			for i := range n * n {
				if chosen>>i&1 == 1 {
					fits = fits && g.Add(i/n, i%n, 1) == api.OK
				}
			}
			if fits {
				check(t, g, 1, firstOfAll)
			}
		}
	}
}

// P8.1 to P8.4 of many graphs.
func TestManyGraphs(t *testing.T) {
	r := rand.New(rand.NewSource(8))
	for _, n := range []int{2, 3, 5, 7, 12} {
		for range 40 {
			g := drawn(t, n)
			for range r.Intn(3 * n) {
				if from, to := r.Intn(n), r.Intn(n); from != to {
					g.Add(from, to, 1+r.Intn(15))
				}
			}
			check(t, g, 15, plainShortest)
			check(t, g, r.Intn(16), plainShortest)
			if n <= 5 {
				check(t, g, 15, firstOfAll)
			}
		}
	}
}

// P8.1, P8.2 of graphs with as many nodes as there can be: a circle, and all edges.
func TestGreatGraphs(t *testing.T) {
	n := api.MaxNodes
	circle, full := drawn(t, n), drawn(t, n)
	for i := range n {
		circle.Add(i, (i+1)%n, 4)
		for to := range n {
			full.Add(i, to, 4)
		}
	}
	p := Shortest(circle, 4, 7, 7)
	if len(p) != n+1 || p[0] != 7 || p[1] != 8 || p[n] != 7 || Distance(circle, 4, 7, 7) != n || Distance(circle, 4, 7, 6) != n-1 {
		t.Error(p)
	}
	noneTwice(t, p)
	if p := Shortest(full, 4, n-1, n-1); !slices.Equal(p, []int{n - 1, 0, n - 1}) || Distance(full, 4, 0, n-1) != 1 {
		t.Error(p)
	}
	for _, g := range []*graph.Graph{circle, full} {
		if s, e := Reach(g, 4, n-1); e != api.OK || s.Bound() != n || s.Count() != n {
			t.Error(s.Count(), e)
		}
	}
}

// P8.2 and rule 'Objects': a nil graph, and one that no call made. ErrNil stands ahead of ErrNode; what is no Errno is zero.
func TestNoGraph(t *testing.T) {
	for _, g := range []*graph.Graph{nil, {}} {
		for _, i := range []int{0, 1, -1, math.MinInt, math.MaxInt} {
			if s, e := Reach(g, 15, i); s != nil || e != api.ErrNil {
				t.Errorf("%v: Reach(%d): %v, %d", g, i, s, e)
			}
			if p, d := Shortest(g, i, i, i), Distance(g, i, i, i); p != nil || d != 0 {
				t.Errorf("%v: %d: %v, %d", g, i, p, d)
			}
		}
	}
}

// Rule 'Memory': the graph stays as it was, and answers are nobody else's.
func TestMemory(t *testing.T) {
	g := drawn(t, 4, edge(0, 1, 1), edge(1, 2, 2), edge(2, 3, 4), edge(3, 0, 8))
	edges := g.Edges()
	p, again := Shortest(g, 15, 0, 3), Shortest(g, 15, 0, 3)
	s, _ := Reach(g, 7, 0)
	other, _ := Reach(g, 7, 0)
	p[0] = 99
	_ = append(p, 98)
	s.Drop(1)
	s.Add(0)
	if !slices.Equal(again, []int{0, 1, 2, 3}) || !slices.Equal(other.List(), []int{1, 2, 3}) {
		t.Fatal(again, other.List())
	}
	if !slices.Equal(g.Edges(), edges) || g.Nodes() != 4 {
		t.Fatal(g.Edges())
	}
	g.Add(0, 3, 1)
	if !slices.Equal(again, []int{0, 1, 2, 3}) || !slices.Equal(s.List(), []int{0, 2, 3}) {
		t.Fatal("an answer hangs on its graph")
	}
}
