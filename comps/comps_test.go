package comps

import (
	"math"
	"math/rand"
	"slices"
	"testing"

	"assayer/api"
	"assayer/graph"
)

func edge(from, to, labels int) api.Edge { return api.Edge{From: from, To: to, Label: labels} }

func drawn(t *testing.T, n int, edges ...api.Edge) *graph.Graph {
	t.Helper()
	g, e := graph.New(n)
	if e != api.OK {
		t.Fatalf("New(%d): %d", n, e)
	}
	for _, x := range edges {
		if e := g.Add(x.From, x.To, x.Label); e != api.OK {
			t.Fatalf("Add(%v): %d", x, e)
		}
	}
	return g
}

// random has about so many edges; one that is flat leads from lesser to greater places of a shuffled list alone, so that there is no cycle.
func random(t *testing.T, r *rand.Rand, n, edges int, flat bool) *graph.Graph {
	t.Helper()
	g := drawn(t, n)
	places := r.Perm(n)
	for range edges {
		from, to := r.Intn(n), r.Intn(n)
		if flat && places[from] > places[to] {
			from, to = to, from
		}
		if from != to {
			g.Add(from, to, 1+r.Intn(15))
		}
	}
	return g
}

// reaches is a table of which node reaches which one by an edge or more, as Warshall makes it.
func reaches(g *graph.Graph, labels int) [][]bool {
	table := make([][]bool, g.Nodes())
	for from := range table {
		table[from] = make([]bool, g.Nodes())
		for to := range table {
			table[from][to] = g.Labels(from, to)&labels != 0
		}
	}
	for by := range table {
		for from := range table {
			for to := range table {
				table[from][to] = table[from][to] || table[from][by] && table[by][to]
			}
		}
	}
	return table
}

// plainComponents goes by P7.1's words.
func plainComponents(g *graph.Graph, labels int) [][]int {
	var l [][]int
	table := reaches(g, labels)
	taken := make([]bool, g.Nodes())
	for a := range taken {
		if taken[a] {
			continue
		}
		var nodes []int
		for b := range taken {
			if a == b || table[a][b] && table[b][a] {
				nodes = append(nodes, b)
				taken[b] = true
			}
		}
		l = append(l, nodes)
	}
	return l
}

// plainOrder goes by P7.2's words: at each place stands the least node that no edge leads to from one that has no place yet.
func plainOrder(g *graph.Graph, labels int) ([]int, bool) {
	var order []int
	for len(order) < g.Nodes() {
		least := slices.IndexFunc(numbers(g.Nodes()), func(node int) bool {
			return !slices.Contains(order, node) && !slices.ContainsFunc(numbers(g.Nodes()), func(from int) bool {
				return !slices.Contains(order, from) && g.Labels(from, node)&labels != 0
			})
		})
		if least < 0 {
			return nil, false
		}
		order = append(order, least)
	}
	return order, true
}

func numbers(n int) []int {
	l := make([]int, n)
	for i := range l {
		l[i] = i
	}
	return l
}

func same(a, b [][]int) bool { return slices.EqualFunc(a, b, slices.Equal[[]int]) }

// check holds all answers against the plain ones, and against P7.3 and P7.4.
func check(t *testing.T, g *graph.Graph, labels int) {
	t.Helper()
	comps := Components(g, labels)
	if want := plainComponents(g, labels); !same(comps, want) {
		t.Fatalf("%v: Components(%d): %v, and not %v", g.Edges(), labels, comps, want)
	}
	order, ok := Order(g, labels)
	want, fine := plainOrder(g, labels)
	if ok != fine || !slices.Equal(order, want) {
		t.Fatalf("%v: Order(%d): %v, %t, and not %v, %t", g.Edges(), labels, order, ok, want, fine)
	}
	if !ok && order != nil {
		t.Fatalf("%v: Order(%d): %v beside false", g.Edges(), labels, order)
	}
	cyclic := Cyclic(g, labels)
	table := reaches(g, labels)
	turns := slices.ContainsFunc(numbers(g.Nodes()), func(node int) bool { return table[node][node] })
	if cyclic != turns || ok == cyclic {
		t.Fatalf("%v: Cyclic(%d): %t", g.Edges(), labels, cyclic)
	}
	follows(t, g, labels, comps, order)
}

// follows goes by the words of P7.3 and P7.4.
func follows(t *testing.T, g *graph.Graph, labels int, comps [][]int, order []int) {
	t.Helper()
	if all := slices.Sorted(slices.Values(slices.Concat(comps...))); !slices.Equal(all, numbers(g.Nodes())) {
		t.Fatalf("%v: components %v", g.Edges(), comps)
	}
	large := slices.ContainsFunc(comps, func(nodes []int) bool { return len(nodes) >= 2 })
	if large != Cyclic(g, labels) {
		t.Fatalf("%v: Cyclic(%d), components %v", g.Edges(), labels, comps)
	}
	if large {
		return
	}
	for _, x := range g.Edges() {
		if x.Label&labels != 0 && slices.Index(order, x.From) >= slices.Index(order, x.To) {
			t.Fatalf("%v: Order(%d): %v: %v leads back", g.Edges(), labels, order, x)
		}
	}
}

// P7.1, P7.2: the chapter's example.
func TestExample(t *testing.T) {
	g := drawn(t, 3, edge(0, 1, 1), edge(1, 0, 1), edge(1, 2, 1))
	if l := Components(g, 1); !same(l, [][]int{{0, 1}, {2}}) {
		t.Error(l)
	}
	if o, ok := Order(g, 1); o != nil || ok || !Cyclic(g, 1) {
		t.Error(o, ok)
	}
}

// P7.1: sets go by their first nodes, each of them rising, whatever the order in which they are come to.
func TestComponents(t *testing.T) {
	for _, c := range []struct {
		n     int
		edges []api.Edge
		want  [][]int
	}{
		{1, nil, [][]int{{0}}},
		{3, nil, [][]int{{0}, {1}, {2}}},
		{2, []api.Edge{edge(1, 0, 4)}, [][]int{{0}, {1}}},
		{2, []api.Edge{edge(1, 0, 4), edge(0, 1, 4)}, [][]int{{0, 1}}},
		{4, []api.Edge{edge(0, 3, 1), edge(3, 1, 1), edge(1, 0, 1)}, [][]int{{0, 1, 3}, {2}}},
		{6, []api.Edge{edge(5, 0, 1), edge(0, 5, 1), edge(4, 1, 1), edge(1, 4, 1), edge(3, 2, 1), edge(2, 3, 1), edge(0, 1, 1), edge(1, 2, 1)}, [][]int{{0, 5}, {1, 4}, {2, 3}}},
		{6, []api.Edge{edge(0, 4, 1), edge(4, 2, 1), edge(2, 4, 1), edge(2, 5, 1), edge(5, 3, 1), edge(3, 5, 1), edge(1, 0, 1)}, [][]int{{0}, {1}, {2, 4}, {3, 5}}},
		// two circles with one node between them, and an edge over to a component that is known already
		{5, []api.Edge{edge(0, 1, 1), edge(1, 2, 1), edge(2, 1, 1), edge(2, 0, 1), edge(0, 4, 1), edge(3, 4, 1), edge(3, 0, 1)}, [][]int{{0, 1, 2}, {3}, {4}}},
	} {
		g := drawn(t, c.n, c.edges...)
		if l := Components(g, 15); !same(l, c.want) {
			t.Errorf("%v: %v", c.edges, l)
		}
		check(t, g, 15)
	}
}

// P7.2: at each place the least node that can stand there.
func TestOrder(t *testing.T) {
	for _, c := range []struct {
		n     int
		edges []api.Edge
		want  []int
	}{
		{1, nil, []int{0}},
		{4, nil, []int{0, 1, 2, 3}},
		{3, []api.Edge{edge(2, 0, 1)}, []int{1, 2, 0}},
		{4, []api.Edge{edge(3, 2, 1), edge(2, 1, 1), edge(1, 0, 1)}, []int{3, 2, 1, 0}},
		{5, []api.Edge{edge(4, 0, 1), edge(0, 2, 1), edge(3, 1, 1)}, []int{3, 1, 4, 0, 2}},
		{4, []api.Edge{edge(0, 1, 1), edge(0, 2, 1), edge(1, 3, 1), edge(2, 3, 1)}, []int{0, 1, 2, 3}},
	} {
		g := drawn(t, c.n, c.edges...)
		if o, ok := Order(g, 1); !ok || !slices.Equal(o, c.want) {
			t.Errorf("%v: %v, %t", c.edges, o, ok)
		}
		check(t, g, 1)
	}
}

// P7.2: a cycle somewhere is enough for there to be no order, though some nodes could be placed.
func TestNoOrder(t *testing.T) {
	g := drawn(t, 6, edge(0, 1, 1), edge(2, 3, 1), edge(3, 4, 1), edge(4, 2, 1), edge(4, 5, 1))
	if o, ok := Order(g, 1); o != nil || ok || !Cyclic(g, 1) {
		t.Error(o, ok)
	}
	check(t, g, 1)
}

// P7.1, P7.2: an edge counts if it has at least one of the labels; what is no label counts nothing.
func TestLabels(t *testing.T) {
	g := drawn(t, 3, edge(0, 1, 3), edge(1, 0, 6), edge(2, 1, 8), edge(1, 2, 9))
	for labels := -18; labels < 36; labels++ {
		check(t, g, labels)
	}
	for _, c := range []struct {
		labels int
		want   [][]int
	}{
		{0, [][]int{{0}, {1}, {2}}}, {1, [][]int{{0}, {1}, {2}}}, {2, [][]int{{0, 1}, {2}}}, {5, [][]int{{0, 1}, {2}}},
		{8, [][]int{{0}, {1, 2}}}, {10, [][]int{{0, 1, 2}}}, {15, [][]int{{0, 1, 2}}}, {-1, [][]int{{0, 1, 2}}},
		{16, [][]int{{0}, {1}, {2}}}, {18, [][]int{{0, 1}, {2}}}, {math.MinInt, [][]int{{0}, {1}, {2}}}, {math.MaxInt, [][]int{{0, 1, 2}}},
	} {
		if l := Components(g, c.labels); !same(l, c.want) || Cyclic(g, c.labels) != (len(c.want) < 3) {
			t.Errorf("Components(%d): %v", c.labels, l)
		}
		if o, ok := Order(g, c.labels); ok != (len(c.want) == 3) || ok != (len(o) == 3) {
			t.Errorf("Order(%d): %v, %t", c.labels, o, ok)
		}
	}
}

// P7.1 to P7.4 of all graphs of up to four nodes.
func TestAllSmallGraphs(t *testing.T) {
	for n := range 5 {
		for chosen := range 1 << (n * n) {
			g := drawn(t, n)
			fits := true
			for i := range n * n {
				if chosen>>i&1 == 1 {
					fits = fits && g.Add(i/n, i%n, 1) == api.OK
				}
			}
			if fits {
				check(t, g, 1)
			}
		}
	}
}

// P7.1 to P7.4 of many graphs.
func TestManyGraphs(t *testing.T) {
	r := rand.New(rand.NewSource(7))
	for _, n := range []int{2, 3, 5, 8, 13, 40} {
		for range 80 {
			for _, flat := range []bool{false, true} {
				g := random(t, r, n, r.Intn(2*n+2), flat)
				check(t, g, 15)
				check(t, g, r.Intn(16))
			}
		}
	}
}

// P7.1, P7.2 of graphs with as many nodes as there can be: a way through all of them, forth and back, a circle, and all edges.
func TestGreatGraphs(t *testing.T) {
	n := api.MaxNodes
	forth, back, circle, full := drawn(t, n), drawn(t, n), drawn(t, n), drawn(t, n)
	for i := range n {
		if i+1 < n {
			forth.Add(i, i+1, 2)
			back.Add(i+1, i, 2)
		}
		circle.Add((i+1)%n, i, 2)
		for to := range n {
			full.Add(i, to, 2)
		}
	}
	upside := numbers(n)
	slices.Reverse(upside)
	for _, c := range []struct {
		g    *graph.Graph
		want []int
	}{{forth, numbers(n)}, {back, upside}} {
		if o, ok := Order(c.g, 2); !ok || !slices.Equal(o, c.want) || len(Components(c.g, 2)) != n || Cyclic(c.g, 2) {
			t.Error(o, ok)
		}
	}
	for _, g := range []*graph.Graph{circle, full} {
		if l := Components(g, 2); !same(l, [][]int{numbers(n)}) || !Cyclic(g, 2) {
			t.Error(len(l))
		}
		if o, ok := Order(g, 2); o != nil || ok {
			t.Error(o, ok)
		}
	}
}

// P7.1, P7.2: a graph without nodes has an order, which is empty.
func TestEmptyGraph(t *testing.T) {
	for _, labels := range []int{0, 15, -1, math.MinInt, math.MaxInt} {
		g := drawn(t, 0)
		if o, ok := Order(g, labels); !ok || len(o) != 0 || len(Components(g, labels)) != 0 || Cyclic(g, labels) {
			t.Error(o, ok)
		}
	}
}

// P7.2 and rule 'Objects': a nil graph, and one that no call made.
func TestNoGraph(t *testing.T) {
	for _, g := range []*graph.Graph{nil, {}} {
		for _, labels := range []int{0, 1, 15, -1, math.MinInt, math.MaxInt} {
			if l := Components(g, labels); len(l) != 0 || Cyclic(g, labels) {
				t.Error(l)
			}
			if o, ok := Order(g, labels); o != nil || ok {
				t.Error(o, ok)
			}
		}
	}
}

// Rule 'Memory': the graph stays as it was, and no list shares room with another one.
func TestMemory(t *testing.T) {
	g := drawn(t, 6, edge(0, 1, 1), edge(1, 0, 2), edge(2, 3, 4), edge(3, 2, 8), edge(4, 5, 1), edge(0, 4, 1))
	edges := g.Edges()
	first, again := Components(g, 15), Components(g, 15)
	for i := range first {
		for j := range first[i] {
			first[i][j] = 90 + j
		}
		_ = append(first[i], 98)
		whole := first[i][:cap(first[i])]
		for j := range whole {
			whole[j] = 100 + i
		}
	}
	for i, nodes := range first {
		for _, node := range nodes[:cap(nodes)] {
			if node != 100+i {
				t.Fatal(first)
			}
		}
	}
	if !same(again, [][]int{{0, 1}, {2, 3}, {4}, {5}}) {
		t.Fatal(again)
	}
	order, _ := Order(g, 1)
	other, _ := Order(g, 1)
	for i := range order {
		order[i] = 99
	}
	_ = append(order, 98)
	if !slices.Equal(other, []int{0, 1, 2, 3, 4, 5}) {
		t.Fatal(other)
	}
	if !slices.Equal(g.Edges(), edges) || g.Nodes() != 6 {
		t.Fatal(g.Edges())
	}
}
