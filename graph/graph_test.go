package graph

import (
	"math"
	"math/rand"
	"slices"
	"testing"

	"assayer/api"
)

func graph(t *testing.T, n int, edges ...api.Edge) *Graph {
	t.Helper()
	g, e := New(n)
	if g == nil || e != api.OK {
		t.Fatalf("New(%d): %v, %d", n, g, e)
	}
	for _, x := range edges {
		if e := g.Add(x.From, x.To, x.Label); e != api.OK {
			t.Fatalf("Add(%v): %d", x, e)
		}
	}
	return g
}

func edge(from, to, labels int) api.Edge { return api.Edge{From: from, To: to, Label: labels} }

// plain is a graph as a table of labels, which all answers are held against.
type plain [][]int

func plainOf(n int, edges ...api.Edge) plain {
	p := make(plain, n)
	for i := range p {
		p[i] = make([]int, n)
	}
	for _, x := range edges {
		p[x.From][x.To] |= x.Label
	}
	return p
}

func (p plain) edges() []api.Edge {
	var l []api.Edge
	for from, row := range p {
		for to, labels := range row {
			if labels != 0 {
				l = append(l, edge(from, to, labels))
			}
		}
	}
	return l
}

func (p plain) out(from, labels int) []int {
	var l []int
	for to, has := range p[from] {
		if has&labels != 0 {
			l = append(l, to)
		}
	}
	return l
}

// check holds all that a graph tells of itself against the table.
func (p plain) check(t *testing.T, g *Graph) {
	t.Helper()
	if g.Nodes() != len(p) || !slices.Equal(g.Edges(), p.edges()) {
		t.Fatalf("%d nodes, %v, and not %d nodes, %v", g.Nodes(), g.Edges(), len(p), p.edges())
	}
	for from := range p {
		for to := range p {
			if g.Labels(from, to) != p[from][to] {
				t.Fatalf("%v: Labels(%d, %d): %d", p.edges(), from, to, g.Labels(from, to))
			}
		}
		for labels := -2; labels < 34; labels++ {
			if !slices.Equal(g.Out(from, labels), p.out(from, labels)) {
				t.Fatalf("%v: Out(%d, %d): %v", p.edges(), from, labels, g.Out(from, labels))
			}
		}
	}
}

// P6.1: New and Nodes.
func TestNew(t *testing.T) {
	for _, n := range []int{0, 1, 2, 64, 65, 299, 300} {
		plainOf(n).check(t, graph(t, n))
	}
	for _, n := range []int{-1, 301, math.MinInt, math.MaxInt} {
		if g, e := New(n); g != nil || e != api.ErrArg {
			t.Errorf("New(%d): %v, %d", n, g, e)
		}
	}
}

// P6.1, P6.2: the chapter's example.
func TestExample(t *testing.T) {
	g := graph(t, 2, edge(0, 1, 1), edge(0, 1, 4))
	if g.Labels(0, 1) != 5 || g.Labels(1, 0) != 0 || len(g.Out(0, 2)) != 0 || !slices.Equal(g.Out(0, 4), []int{1}) {
		t.Fatal(g.Edges())
	}
}

// P6.1: an edge has all the labels that were put on it, whatever they were, and no other edge has.
func TestAdd(t *testing.T) {
	for first := 1; first <= 15; first++ {
		for second := 1; second <= 15; second++ {
			g := graph(t, 3, edge(0, 1, first), edge(2, 0, second), edge(0, 1, second))
			plainOf(3, edge(0, 1, first|second), edge(2, 0, second)).check(t, g)
		}
	}
	g := graph(t, 300, edge(299, 0, 8), edge(0, 299, 1))
	if g.Labels(299, 0) != 8 || g.Labels(0, 299) != 1 || !slices.Equal(g.Edges(), []api.Edge{edge(0, 299, 1), edge(299, 0, 8)}) {
		t.Fatal(g.Edges())
	}
}

// P6.1: what Add refuses, ErrNode ahead of ErrArg; nothing has changed then.
func TestAddRefuses(t *testing.T) {
	g := graph(t, 3, edge(0, 1, 5), edge(2, 1, 2))
	for _, c := range []struct {
		from, to, labels int
		want             api.Errno
	}{
		{3, 0, 1, api.ErrNode}, {0, 3, 1, api.ErrNode}, {-1, 0, 1, api.ErrNode}, {0, -1, 1, api.ErrNode},
		{3, 3, 1, api.ErrNode}, {-1, -1, 0, api.ErrNode}, {0, 3, 16, api.ErrNode}, {3, 0, -1, api.ErrNode},
		{math.MinInt, 0, 1, api.ErrNode}, {0, math.MaxInt, 1, api.ErrNode}, {math.MaxInt, math.MaxInt, 1, api.ErrNode},
		{0, 1, 0, api.ErrArg}, {0, 1, 16, api.ErrArg}, {0, 1, 17, api.ErrArg}, {0, 1, -1, api.ErrArg},
		{0, 1, math.MinInt, api.ErrArg}, {0, 1, math.MaxInt, api.ErrArg},
		{0, 0, 1, api.ErrArg}, {2, 2, 15, api.ErrArg}, {1, 1, 0, api.ErrArg},
	} {
		if e := g.Add(c.from, c.to, c.labels); e != c.want {
			t.Errorf("Add(%d, %d, %d): %d", c.from, c.to, c.labels, e)
		}
		plainOf(3, edge(0, 1, 5), edge(2, 1, 2)).check(t, g)
	}
	if e := graph(t, 0).Add(0, 0, 0); e != api.ErrNode {
		t.Error(e)
	}
}

// P6.1, P6.2: of a node that is not there nothing is told.
func TestNoSuchNode(t *testing.T) {
	g := graph(t, 3, edge(0, 1, 15), edge(1, 2, 15), edge(2, 0, 15))
	for _, n := range []int{-1, 3, 4, -300, 300, math.MinInt, math.MaxInt} {
		for i := range 3 {
			if g.Labels(n, i) != 0 || g.Labels(i, n) != 0 {
				t.Errorf("Labels of %d and %d", n, i)
			}
		}
		if g.Labels(n, n) != 0 || len(g.Out(n, 15)) != 0 {
			t.Errorf("edges of %d", n)
		}
	}
}

// P6.2: Out of labels that are none, beside those that are.
func TestOutOfOddLabels(t *testing.T) {
	g := graph(t, 4, edge(0, 3, 1), edge(0, 1, 6), edge(0, 2, 8))
	for _, c := range []struct {
		labels int
		want   []int
	}{
		{0, nil}, {16, nil}, {math.MinInt, nil}, {17, []int{3}}, {15, []int{1, 2, 3}}, {-1, []int{1, 2, 3}},
		{math.MaxInt, []int{1, 2, 3}}, {-2, []int{1, 2}}, {9, []int{2, 3}}, {2, []int{1}}, {4, []int{1}},
	} {
		if got := g.Out(0, c.labels); !slices.Equal(got, c.want) {
			t.Errorf("Out(0, %d): %v", c.labels, got)
		}
	}
}

// P6.2: Edges go by From, then by To, whatever the order in which they were put in.
func TestEdges(t *testing.T) {
	g := graph(t, 4, edge(3, 0, 1), edge(1, 3, 2), edge(1, 0, 4), edge(0, 2, 8), edge(1, 3, 8), edge(3, 2, 15))
	want := []api.Edge{edge(0, 2, 8), edge(1, 0, 4), edge(1, 3, 10), edge(3, 0, 1), edge(3, 2, 15)}
	if !slices.Equal(g.Edges(), want) {
		t.Fatal(g.Edges())
	}
}

// P6.2: Turn.
func TestTurn(t *testing.T) {
	g := graph(t, 4, edge(0, 1, 5), edge(1, 0, 2), edge(2, 0, 8))
	plainOf(4, edge(1, 0, 5), edge(0, 1, 2), edge(0, 2, 8)).check(t, g.Turn())
	plainOf(4, edge(0, 1, 5), edge(1, 0, 2), edge(2, 0, 8)).check(t, g)
	plainOf(0).check(t, graph(t, 0).Turn())
	plainOf(300).check(t, graph(t, 300).Turn())
}

// P6.2: Only.
func TestOnly(t *testing.T) {
	g := graph(t, 4, edge(0, 1, 5), edge(1, 0, 2), edge(2, 0, 8))
	for labels := -17; labels < 40; labels++ {
		plainOf(4, edge(0, 1, 5&labels), edge(1, 0, 2&labels), edge(2, 0, 8&labels)).check(t, g.Only(labels))
	}
	for _, labels := range []int{0, 16, math.MinInt} {
		plainOf(4).check(t, g.Only(labels))
	}
	for _, labels := range []int{15, -1, math.MaxInt} {
		plainOf(4, edge(0, 1, 5), edge(1, 0, 2), edge(2, 0, 8)).check(t, g.Only(labels))
	}
	plainOf(4, edge(0, 1, 5), edge(1, 0, 2), edge(2, 0, 8)).check(t, g)
	plainOf(0).check(t, graph(t, 0).Only(15))
}

// P6.1 to P6.4 of many graphs: Turn twice is the graph, Edges are what Out and Labels tell.
func TestManyGraphs(t *testing.T) {
	r := rand.New(rand.NewSource(6))
	for _, n := range []int{2, 3, 5, 8, 64, 65, 70} {
		for range 60 {
			g, p := graph(t, n), plainOf(n)
			for range r.Intn(3 * n) {
				from, to, labels := r.Intn(n), r.Intn(n), 1+r.Intn(15)
				if e := g.Add(from, to, labels); (e == api.OK) != (from != to) {
					t.Fatalf("Add(%d, %d, %d): %d", from, to, labels, e)
				}
				if from != to {
					p[from][to] |= labels
				}
			}
			p.check(t, g)
			p.check(t, g.Turn().Turn())
			turned := plainOf(n)
			for _, x := range p.edges() {
				turned[x.To][x.From] = x.Label
			}
			turned.check(t, g.Turn())
			labels := r.Intn(16)
			few := plainOf(n)
			for _, x := range p.edges() {
				few[x.From][x.To] = x.Label & labels
			}
			few.check(t, g.Only(labels))
			told(t, g)
		}
	}
}

// told goes by P6.4's words.
func told(t *testing.T, g *Graph) {
	t.Helper()
	var l []api.Edge
	for from := range g.Nodes() {
		for _, to := range g.Out(from, 15) {
			l = append(l, edge(from, to, g.Labels(from, to)))
		}
	}
	if !slices.Equal(l, g.Edges()) {
		t.Fatalf("%v, and not %v", g.Edges(), l)
	}
}

// P6.2 to P6.4 of a graph with as many nodes and edges as there can be.
func TestFullGraph(t *testing.T) {
	g := graph(t, api.MaxNodes)
	for from := range api.MaxNodes {
		for to := range api.MaxNodes {
			if from != to && g.Add(from, to, 1+(from+2*to)%15) != api.OK {
				t.Fatal(from, to)
			}
		}
	}
	if len(g.Edges()) != api.MaxNodes*(api.MaxNodes-1) || len(g.Out(299, 15)) != 299 || g.Turn().Labels(7, 299) != g.Labels(299, 7) {
		t.Fatal(len(g.Edges()))
	}
	told(t, g)
	if !slices.Equal(g.Turn().Turn().Edges(), g.Edges()) || !slices.Equal(g.Only(15).Edges(), g.Edges()) {
		t.Fatal("another graph")
	}
}

// Rule 'Objects': a nil graph, and one that no call made. ErrNil stands ahead of the others.
func TestNoGraph(t *testing.T) {
	for _, g := range []*Graph{nil, {}} {
		for _, i := range []int{0, 1, -1, math.MinInt, math.MaxInt} {
			if g.Add(i, 1, 1) != api.ErrNil || g.Add(0, i, 1) != api.ErrNil || g.Add(0, 1, i) != api.ErrNil || g.Add(i, i, i) != api.ErrNil {
				t.Errorf("%v: Add", g)
			}
			if g.Labels(i, 1) != 0 || g.Labels(0, i) != 0 || len(g.Out(i, 15)) != 0 || len(g.Out(0, i)) != 0 || g.Only(i) != nil {
				t.Errorf("%v answers of %d", g, i)
			}
		}
		if g.Nodes() != 0 || len(g.Edges()) != 0 || g.Turn() != nil {
			t.Errorf("%v answers", g)
		}
	}
}

// Rule 'Memory': graphs are apart, and lists are nobody else's.
func TestMemory(t *testing.T) {
	g := graph(t, 4, edge(0, 1, 5), edge(0, 2, 1), edge(1, 0, 2))
	p := plainOf(4, edge(0, 1, 5), edge(0, 2, 1), edge(1, 0, 2))
	out, again := g.Out(0, 15), g.Out(0, 15)
	edges, more := g.Edges(), g.Edges()
	out[0], edges[0].To = 99, 99
	_ = append(out, 98)
	_ = append(edges, edge(9, 9, 9))
	if p.check(t, g); !slices.Equal(again, []int{1, 2}) || !slices.Equal(more, p.edges()) {
		t.Fatal("two lists share memory")
	}
	turned, few := g.Turn(), g.Only(15)
	turned.Add(3, 0, 15)
	few.Add(3, 1, 15)
	p.check(t, g)
	g.Add(2, 3, 4)
	plainOf(4, edge(1, 0, 5), edge(2, 0, 1), edge(0, 1, 2), edge(3, 0, 15)).check(t, turned)
	plainOf(4, edge(0, 1, 5), edge(0, 2, 1), edge(1, 0, 2), edge(3, 1, 15)).check(t, few)
	if !slices.Equal(again, []int{1, 2}) || !slices.Equal(more, p.edges()) {
		t.Fatal("a list hangs on its graph")
	}
}
