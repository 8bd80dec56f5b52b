package deps

import (
	"math"
	"math/rand"
	"reflect"
	"slices"
	"testing"

	"assayer/api"
	"assayer/graph"
	"assayer/lists"
	"assayer/realtime"
	"assayer/regs"
	"assayer/table"
)

func app(key string, value int) api.Op { return api.Op{Kind: api.OpAppend, Key: key, Value: value} }
func put(key string, value int) api.Op { return api.Op{Kind: api.OpWrite, Key: key, Value: value} }
func saw(key string, l ...int) api.Op {
	return api.Op{Kind: api.OpRead, Key: key, List: l, Has: true}
}
func got(key string, value int) api.Op {
	return api.Op{Kind: api.OpGet, Key: key, Value: value, Has: true}
}
func none(key string) api.Op { return api.Op{Kind: api.OpGet, Key: key, Has: true, Nil: true} }

func at(from, to int, l ...api.Op) api.Txn {
	return api.Txn{State: api.TxOk, From: from, To: to, Ops: l}
}

func dep(from, to, label int, key string, a, b int) api.Why {
	return api.Why{From: from, To: to, Label: label, Key: key, A: a, B: b}
}
func cond(w api.Why) api.Why {
	w.Cond = true
	return w
}
func fromNil(w api.Why) api.Why {
	w.Nil = true
	return w
}
func rt(from, to int) api.Why { return api.Why{From: from, To: to, Label: api.LabelRT} }

// mixed is transactions over two lists and two registers, and what comes of them, without and with real time.
func mixed() (l []api.Txn, keys, time []api.Why) {
	l = []api.Txn{
		at(0, 1, app("x", 1), put("q", 1), app("b", 5)),
		at(2, 4, app("x", 2), none("a"), got("q", 1), put("q", 2)),
		at(3, 5, saw("x", 1, 2), saw("b"), put("a", 7)),
		at(6, 7, saw("b", 5), got("q", 2)),
	}
	keys = []api.Why{
		fromNil(dep(1, 2, api.LabelRW, "a", 0, 7)),
		dep(0, 3, api.LabelWR, "b", 5, 0),
		fromNil(dep(2, 0, api.LabelRW, "b", 0, 5)),
		cond(dep(0, 1, api.LabelWW, "q", 1, 2)),
		dep(0, 1, api.LabelWR, "q", 1, 0),
		dep(1, 3, api.LabelWR, "q", 2, 0),
		dep(0, 1, api.LabelWW, "x", 1, 2),
		dep(1, 2, api.LabelWR, "x", 2, 0),
	}
	time = []api.Why{rt(0, 1), rt(0, 2), rt(1, 3), rt(2, 3)}
	return l, keys, time
}

// P14.1: key by key, then real time.
func TestAll(t *testing.T) {
	l, keys, time := mixed()
	x := table.New(l)
	if got := All(x, false); !slices.Equal(got, keys) {
		t.Errorf("without: %v", got)
	}
	if got := All(x, true); !slices.Equal(got, append(keys, time...)) {
		t.Errorf("with: %v", got)
	}
}

// P14.1: the chapter's example, keys rising, whatever comes first in the history and whatever their kinds are.
func TestKeysInOrder(t *testing.T) {
	x := table.New([]api.Txn{
		at(0, 9, app("z", 1), put("y", 1), app("b", 1), put("a", 1)),
		at(1, 8, saw("z", 1), got("y", 1), saw("b", 1), got("a", 1)),
	})
	var want []api.Why
	for _, key := range []string{"a", "b", "y", "z"} {
		want = append(want, dep(0, 1, api.LabelWR, key, 1, 0))
	}
	for _, real := range []bool{false, true} {
		if l := All(x, real); !slices.Equal(l, want) {
			t.Error(real, l)
		}
	}
}

// P14.1: where keys tell nothing, real time still does.
func TestRealTimeAlone(t *testing.T) {
	for name, c := range map[string]struct {
		l    []api.Txn
		time []api.Why
	}{
		"nothing":         {nil, nil},
		"no operations":   {[]api.Txn{at(0, 1), at(2, 3), at(4, 5)}, []api.Why{rt(0, 1), rt(1, 2)}},
		"a fork":          {[]api.Txn{at(0, 1, app("x", 1)), at(2, 3, app("x", 2)), at(4, 6, saw("x", 1)), at(5, 7, saw("x", 2))}, []api.Why{rt(0, 1), rt(1, 2), rt(1, 3)}},
		"not unique":      {[]api.Txn{at(0, 1, put("p", 1)), at(2, 3, put("p", 1)), at(4, 5, got("p", 1))}, []api.Why{rt(0, 1), rt(1, 2)}},
		"only TxOk":       {[]api.Txn{at(0, 1), {State: api.TxInfo, From: 2, To: 3}, {State: api.TxFail, From: 2, To: 3}, {From: 2, To: 3}, at(4, 5)}, []api.Why{rt(0, 4)}},
		"without end":     {[]api.Txn{at(0, -1), at(4, 5)}, nil},
		"turned by hand":  {[]api.Txn{at(5, 1)}, nil},
		"of one kind":     {[]api.Txn{at(0, 1, api.Op{Kind: 9, Key: "x"}), at(2, 3, api.Op{Kind: api.OpRead, Key: "x"})}, []api.Why{rt(0, 1)}},
		"kinds are mixed": {[]api.Txn{at(0, 1, put("x", 1)), at(2, 3, saw("x", 1))}, []api.Why{rt(0, 1)}},
	} {
		x := table.New(c.l)
		if l := All(x, false); len(l) != 0 {
			t.Errorf("%s: %v", name, l)
		}
		if l := All(x, true); !slices.Equal(l, c.time) {
			t.Errorf("%s: %v", name, l)
		}
	}
}

// Objects: a nil table, and one that no call made.
func TestNoTable(t *testing.T) {
	for _, x := range []*table.Table{nil, {}} {
		if len(All(x, false)) != 0 || len(All(x, true)) != 0 {
			t.Fatal(All(x, false), All(x, true))
		}
	}
}

// some is transactions at random, whose reads are mostly of what was written, and of which nothing else need be right.
func some(r *rand.Rand) []api.Txn {
	l := make([]api.Txn, r.Intn(7))
	written := map[string][]int{}
	value := 0
	for n := range l {
		l[n] = api.Txn{State: api.TxOk, From: r.Intn(12), To: r.Intn(14) - 1}
		if r.Intn(6) == 0 {
			l[n].State = r.Intn(5)
		}
		for range r.Intn(5) {
			key := []string{"x", "p", "y", "q"}[r.Intn(4)]
			kind := []int{api.OpAppend, api.OpWrite}[r.Intn(8)/7]
			if key == "p" || key == "q" {
				kind = api.OpAppend + api.OpWrite - kind
			}
			old := written[key]
			value++
			switch {
			case r.Intn(2) == 0:
				if r.Intn(60) == 0 {
					value = 1
				}
				written[key] = append(old, value)
				l[n].Ops = append(l[n].Ops, api.Op{Kind: kind, Key: key, Value: value})
			case kind == api.OpAppend:
				l[n].Ops = append(l[n].Ops, saw(key, old[:r.Intn(len(old)+1)]...))
			case len(old) > 0:
				l[n].Ops = append(l[n].Ops, got(key, old[r.Intn(len(old))]))
			default:
				l[n].Ops = append(l[n].Ops, none(key), api.Op{Kind: 7, Key: key})
			}
		}
	}
	r.Shuffle(len(l), func(i, j int) { l[i], l[j] = l[j], l[i] })
	return l
}

// P14.1: against the chapter's words.
func TestAllAtRandom(t *testing.T) {
	r := rand.New(rand.NewSource(14))
	labels := map[int]int{}
	for range 20000 {
		l := some(r)
		x := table.New(l)
		var want []api.Why
		for _, key := range x.Keys() {
			switch x.Kind(key) {
			case api.OpAppend:
				want = append(want, lists.Edges(x, key)...)
			case api.OpWrite:
				want = append(want, regs.Edges(x, key)...)
			}
		}
		if got := All(x, false); !slices.Equal(got, want) {
			t.Fatalf("%v:\n%v, not\n%v", l, got, want)
		}
		for _, p := range realtime.Sparse(l) {
			want = append(want, rt(p[0], p[1]))
		}
		if got := All(x, true); !slices.Equal(got, want) {
			t.Fatalf("%v:\n%v, not\n%v", l, got, want)
		}
		for _, w := range want {
			labels[w.Label]++
		}
		checkGraph(t, len(l), want)
	}
	for _, label := range []int{api.LabelWW, api.LabelWR, api.LabelRW, api.LabelRT} {
		if labels[label] < 300 {
			t.Error("too few", label, labels[label])
		}
	}
}

// checkGraph tells whether the graph of a history's dependencies has just their edges (P14.4).
func checkGraph(t *testing.T, n int, l []api.Why) {
	t.Helper()
	g, e := Graph(n, l)
	if e != api.OK || g.Nodes() != n {
		t.Fatal(l, e)
	}
	edges := map[[2]int]int{}
	for _, w := range l {
		edges[[2]int{w.From, w.To}] |= w.Label
	}
	for _, edge := range g.Edges() {
		if edges[[2]int{edge.From, edge.To}] != edge.Label {
			t.Fatal(l, edge)
		}
	}
	if len(g.Edges()) != len(edges) {
		t.Fatal(l, g.Edges())
	}
}

// P14.2, P14.4
func TestGraph(t *testing.T) {
	l, keys, time := mixed()
	g, e := Graph(len(l), append(keys, time...))
	if e != api.OK || g.Nodes() != 4 {
		t.Fatal(g, e)
	}
	want := []api.Edge{
		{From: 0, To: 1, Label: api.LabelWW | api.LabelWR | api.LabelRT}, {From: 0, To: 2, Label: api.LabelRT}, {From: 0, To: 3, Label: api.LabelWR},
		{From: 1, To: 2, Label: api.LabelWR | api.LabelRW}, {From: 1, To: 3, Label: api.LabelWR | api.LabelRT},
		{From: 2, To: 0, Label: api.LabelRW}, {From: 2, To: 3, Label: api.LabelRT},
	}
	if !slices.Equal(g.Edges(), want) {
		t.Fatal(g.Edges())
	}
	for _, none := range [][]api.Why{nil, {}} {
		for _, n := range []int{0, 1, api.MaxNodes} {
			g, e := Graph(n, none)
			if e != api.OK || g.Nodes() != n || len(g.Edges()) != 0 {
				t.Error(n, e)
			}
		}
	}
	g, e = Graph(api.MaxNodes, []api.Why{{From: api.MaxNodes - 1, Label: 15}, {From: api.MaxNodes - 1, Label: 2}})
	if e != api.OK || !slices.Equal(g.Edges(), []api.Edge{{From: api.MaxNodes - 1, To: 0, Label: 15}}) {
		t.Error(g, e)
	}
}

// P14.2: graph.New's error first, then that of the first dependency that has one; the graph is then none.
func TestGraphErrors(t *testing.T) {
	good := rt(0, 1)
	for name, c := range map[string]struct {
		n    int
		l    []api.Why
		want api.Errno
	}{
		"below 0":                  {-1, nil, api.ErrArg},
		"too many nodes":           {api.MaxNodes + 1, []api.Why{good}, api.ErrArg},
		"the least number":         {math.MinInt, nil, api.ErrArg},
		"the greatest number":      {math.MaxInt, nil, api.ErrArg},
		"nodes ahead of an edge":   {-1, []api.Why{rt(5, 5)}, api.ErrArg},
		"no nodes":                 {0, []api.Why{good}, api.ErrNode},
		"no node to lead to":       {1, []api.Why{good}, api.ErrNode},
		"no node to lead from":     {2, []api.Why{good, rt(2, 1)}, api.ErrNode},
		"a node below 0":           {2, []api.Why{rt(-1, 1)}, api.ErrNode},
		"greatest nodes":           {2, []api.Why{rt(math.MinInt, math.MaxInt)}, api.ErrNode},
		"on itself":                {2, []api.Why{rt(1, 1)}, api.ErrArg},
		"no label":                 {2, []api.Why{good, {From: 0, To: 1}}, api.ErrArg},
		"no such label":            {2, []api.Why{{From: 0, To: 1, Label: 16}}, api.ErrArg},
		"a label below 0":          {2, []api.Why{{From: 0, To: 1, Label: -1}}, api.ErrArg},
		"greatest labels":          {2, []api.Why{{From: 0, To: 1, Label: math.MaxInt}}, api.ErrArg},
		"a node ahead of a label":  {2, []api.Why{{From: 0, To: 2, Label: 16}}, api.ErrNode},
		"a node ahead of itself":   {2, []api.Why{rt(2, 2)}, api.ErrNode},
		"the first one: a label":   {2, []api.Why{good, {From: 0, To: 1}, rt(0, 2)}, api.ErrArg},
		"the first one: a node":    {2, []api.Why{good, rt(0, 2), {From: 0, To: 1}}, api.ErrNode},
		"conditions play no part":  {2, []api.Why{{From: 0, To: 1, Cond: true, Nil: true, Key: "x"}}, api.ErrArg},
		"an error behind many":     {2, append(slices.Repeat([]api.Why{good}, 1000), rt(1, 1)), api.ErrArg},
		"nothing at all, no nodes": {0, []api.Why{{}}, api.ErrNode},
	} {
		if g, e := Graph(c.n, c.l); g != (*graph.Graph)(nil) || e != c.want {
			t.Errorf("%s: %v %v", name, g, e)
		}
	}
}

// P14.3
func TestFind(t *testing.T) {
	first, second := dep(0, 1, api.LabelWW, "x", 1, 2), dep(0, 1, api.LabelWW, "y", 3, 4)
	other := dep(0, 1, api.LabelWW, "z", 5, 6)
	back, read := dep(1, 0, api.LabelWW, "x", 7, 8), dep(0, 1, api.LabelWR, "x", 9, 0)
	both := dep(0, 1, api.LabelWW|api.LabelWR, "x", 9, 0)
	for name, c := range map[string]struct {
		l    []api.Why
		want api.Why
		ok   bool
	}{
		"nothing":                      {nil, api.Why{}, false},
		"an empty list":                {[]api.Why{}, api.Why{}, false},
		"none of these three":          {[]api.Why{back, read, both, dep(0, 2, api.LabelWW, "x", 1, 2), dep(2, 1, api.LabelWW, "x", 1, 2)}, api.Why{}, false},
		"the first":                    {[]api.Why{back, read, first, second}, first, true},
		"the first, not the least":     {[]api.Why{second, first}, second, true},
		"sure ones ahead":              {[]api.Why{cond(first), cond(other), second, first}, second, true},
		"sure first":                   {[]api.Why{first, cond(second), other}, first, true},
		"none is sure":                 {[]api.Why{cond(back), cond(second), cond(first)}, cond(second), true},
		"sure ones of others play no":  {[]api.Why{back, cond(second), read, both}, cond(second), true},
		"with all its fields":          {[]api.Why{fromNil(cond(first))}, fromNil(cond(first)), true},
		"the same many times":          {slices.Repeat([]api.Why{cond(first), second}, 50), second, true},
		"a sure one behind all others": {append(slices.Repeat([]api.Why{cond(first)}, 50), other), other, true},
	} {
		if w, ok := Find(c.l, 0, 1, api.LabelWW); w != c.want || ok != c.ok {
			t.Errorf("%s: %v %v", name, w, ok)
		}
	}
}

// P14.3: whatever the numbers are, they are only held against each other.
func TestFindByHand(t *testing.T) {
	strange := []api.Why{{From: math.MinInt, To: math.MaxInt, Label: -1, A: 1}, {Label: 99, A: 2}, {A: 3}}
	for _, w := range strange {
		if found, ok := Find(strange, w.From, w.To, w.Label); found != w || !ok {
			t.Error(found, ok)
		}
	}
	for _, c := range [][3]int{{math.MinInt, math.MaxInt, 1}, {math.MaxInt, math.MinInt, -1}, {0, 0, 98}, {-1, 0, 0}} {
		if w, ok := Find(strange, c[0], c[1], c[2]); w != (api.Why{}) || ok {
			t.Error(w, ok)
		}
	}
}

// store does one transaction at a time.
type store struct {
	lists map[string][]int
	regs  map[string]int
	value int
}

// do is a transaction's operations, as the store does them; those of unknown end, and those that failed, read nothing.
func (s *store) do(r *rand.Rand, state int) []api.Op {
	done := state == api.TxOk || state == api.TxInfo && r.Intn(2) == 0
	var l []api.Op
	for range 1 + r.Intn(4) {
		list, reg := []string{"x", "y"}[r.Intn(2)], []string{"p", "q"}[r.Intn(2)]
		s.value++
		value, full := s.regs[reg]
		switch kind := 1 + r.Intn(4); {
		case kind == api.OpAppend:
			l = append(l, app(list, s.value))
			if done {
				s.lists[list] = append(s.lists[list], s.value)
			}
		case kind == api.OpWrite:
			l = append(l, put(reg, s.value))
			if done {
				s.regs[reg] = s.value
			}
		case state != api.TxOk:
			l = append(l, api.Op{Kind: api.OpRead, Key: list}, api.Op{Kind: api.OpGet, Key: reg})
		case kind == api.OpRead:
			l = append(l, saw(list, slices.Clone(s.lists[list])...))
		case full:
			l = append(l, got(reg, value))
		default:
			l = append(l, none(reg))
		}
	}
	return l
}

// P14.5: a transaction is done at a time of its own between its beginning and its end, and stands anywhere in the list.
func TestOneAtATime(t *testing.T) {
	r := rand.New(rand.NewSource(145))
	labels := map[int]int{}
	for range 3000 {
		s := store{lists: map[string][]int{}, regs: map[string]int{}}
		order := r.Perm(r.Intn(12))
		l := make([]api.Txn, len(order))
		place := make([]int, len(order))
		for when, n := range order {
			state := 1 + r.Intn(3)*r.Intn(2)
			l[n] = api.Txn{State: state, From: max(0, 10*when-r.Intn(25)), To: 10*when + r.Intn(25), Ops: s.do(r, state)}
			place[n] = when
		}
		for _, w := range All(table.New(l), true) {
			labels[w.Label]++
			if place[w.From] >= place[w.To] {
				t.Fatal(l, place, w)
			}
		}
	}
	for _, label := range []int{api.LabelWW, api.LabelWR, api.LabelRW, api.LabelRT} {
		if labels[label] < 1000 {
			t.Error("too few", label, labels[label])
		}
	}
}

// Memory: what is handed in is as it was, the room behind it, too; answers are new.
func TestMemory(t *testing.T) {
	l, keys, time := mixed()
	x := table.New(l)
	want := append(keys, time...)
	again := All(x, true)
	clear(again[:cap(again)])
	if !slices.Equal(All(x, true), want) {
		t.Fatal(All(x, true))
	}
	for n := range l {
		if !reflect.DeepEqual(x.Txn(n), l[n]) {
			t.Fatal(n, x.Txn(n))
		}
	}
	room := append(slices.Clone(want), rt(3, 3), rt(9, 9))
	handed := slices.Clone(room)
	g, e := Graph(4, handed[:len(want)])
	w, ok := Find(handed[:len(want)], 0, 1, api.LabelWW)
	if e != api.OK || w != dep(0, 1, api.LabelWW, "x", 1, 2) || !ok || !slices.Equal(handed, room) {
		t.Fatal(e, w, ok, handed)
	}
	edges := g.Edges()
	clear(handed)
	if other, _ := Graph(4, want); other.Add(3, 0, api.LabelRT) != api.OK || !slices.Equal(g.Edges(), edges) || len(edges) != 7 {
		t.Fatal(g.Edges())
	}
}

// Ends: a history of many transactions.
func TestLong(t *testing.T) {
	const many = 20000
	l := make([]api.Txn, many)
	for n := range l {
		l[n] = at(2*n, 2*n+1, app("x", n), put("p", n))
	}
	if got := All(table.New(l), true); len(got) != many-1 || got[many-2] != rt(many-2, many-1) {
		t.Fatal(len(got))
	}
	if g, e := Graph(many, nil); g != nil || e != api.ErrArg {
		t.Fatal(e)
	}
}
