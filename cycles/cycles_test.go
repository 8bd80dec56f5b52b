package cycles

import (
	"math"
	"math/rand"
	"slices"
	"testing"

	"assayer/api"
	"assayer/deps"
	"assayer/paths"
)

const (
	ww = api.LabelWW
	wr = api.LabelWR
	rw = api.LabelRW
	rt = api.LabelRT
)

func dep(from, to, label int) api.Why { return api.Why{From: from, To: to, Label: label} }

// ring is a cycle 0, 1, 2 and so on with these labels.
func ring(labels ...int) []api.Why {
	var l []api.Why
	for i, label := range labels {
		l = append(l, dep(i, (i+1)%len(labels), label))
	}
	return l
}

// asked is a class, with real time or without.
type asked struct {
	class int
	real  bool
}

var all = [8]asked{
	{api.AnG0, false}, {api.AnG1c, false}, {api.AnSingle, false}, {api.AnG2, false},
	{api.AnG0, true}, {api.AnG1c, true}, {api.AnSingle, true}, {api.AnG2, true},
}

// told is Is of each that may be asked, in the order of all: 1 is true.
func told(l []api.Why) [8]int {
	var x [8]int
	for i, a := range all {
		if Is(l, a.class, a.real) {
			x[i] = 1
		}
	}
	return x
}

// P15.1: the labels of each class.
func TestLabels(t *testing.T) {
	for name, c := range map[string]struct {
		l    []api.Why
		want [8]int
	}{
		"writes":                    {ring(ww, ww), [8]int{1, 0, 0, 0, 1, 0, 0, 0}},
		"many writes":               {ring(ww, ww, ww, ww), [8]int{1, 0, 0, 0, 1, 0, 0, 0}},
		"a write that is read":      {ring(ww, wr), [8]int{0, 1, 0, 0, 0, 1, 0, 0}},
		"the same, turned":          {ring(wr, ww), [8]int{0, 1, 0, 0, 0, 1, 0, 0}},
		"reads alone":               {ring(wr, wr, wr), [8]int{0, 1, 0, 0, 0, 1, 0, 0}},
		"one written over":          {ring(rw, ww), [8]int{0, 0, 1, 1, 0, 0, 1, 1}},
		"one written over, last":    {ring(ww, wr, rw), [8]int{0, 0, 1, 1, 0, 0, 1, 1}},
		"two written over":          {ring(rw, rw), [8]int{0, 0, 0, 1, 0, 0, 0, 1}},
		"two, not side by side":     {ring(rw, ww, rw, wr), [8]int{0, 0, 0, 1, 0, 0, 0, 1}},
		"writes in time":            {ring(rt, ww, rt), [8]int{0, 0, 0, 0, 1, 0, 0, 0}},
		"reads in time":             {ring(wr, rt), [8]int{0, 0, 0, 0, 0, 1, 0, 0}},
		"reads and writes in time":  {ring(ww, rt, wr), [8]int{0, 0, 0, 0, 0, 1, 0, 0}},
		"one written over in time":  {ring(rt, rw, rt, rt), [8]int{0, 0, 0, 0, 0, 0, 1, 1}},
		"two written over in time":  {ring(rw, rt, rw), [8]int{0, 0, 0, 0, 0, 0, 0, 1}},
		"all four":                  {ring(ww, wr, rw, rt), [8]int{0, 0, 0, 0, 0, 0, 1, 1}},
		"time alone":                {ring(rt, rt), [8]int{}},
		"two labels at once":        {ring(ww|wr, ww), [8]int{}},
		"two labels of the others":  {ring(rw, ww|wr), [8]int{}},
		"two labels at once, all":   {ring(rw|rt, rw|rt), [8]int{}},
		"no label":                  {ring(ww, 0), [8]int{}},
		"no label that is known":    {ring(ww, 16, wr, rw), [8]int{}},
		"a label below 0":           {ring(rw, -1), [8]int{}},
		"the greatest label":        {ring(rw, math.MaxInt), [8]int{}},
		"the least label":           {ring(math.MinInt, rw), [8]int{}},
		"a strange one ahead":       {ring(-1, wr, ww), [8]int{}},
		"a strange one alone":       {ring(3, 3), [8]int{}},
		"nothing":                   {nil, [8]int{}},
		"an empty list":             {[]api.Why{}, [8]int{}},
		"one that leads to itself":  {ring(ww), [8]int{}},
		"one that reads itself":     {ring(rw), [8]int{}},
		"conditions play no part":   {[]api.Why{{From: 0, To: 1, Label: ww, Cond: true}, {From: 1, To: 0, Label: rw, Cond: true, Nil: true, Key: "x", A: 1}}, [8]int{0, 0, 1, 1, 0, 0, 1, 1}},
		"nodes are any numbers":     {[]api.Why{dep(math.MinInt, math.MaxInt, ww), dep(math.MaxInt, -1, ww), dep(-1, math.MinInt, ww)}, [8]int{1, 0, 0, 0, 1, 0, 0, 0}},
		"as many nodes as there be": {ring(append(slices.Repeat([]int{ww}, 5*api.MaxNodes), rw)...), [8]int{0, 0, 1, 1, 0, 0, 1, 1}},
	} {
		if x := told(c.l); x != c.want {
			t.Errorf("%s: %v", name, x)
		}
	}
}

// P15.1: what is no cycle is none of any class, whatever its labels are.
func TestNoCycle(t *testing.T) {
	for name, c := range map[string][][2]int{
		"one":                       {{0, 1}},
		"one on itself":             {{0, 0}},
		"two on themselves":         {{0, 0}, {0, 0}},
		"a gap":                     {{0, 1}, {2, 0}},
		"not closed":                {{0, 1}, {1, 2}},
		"closed elsewhere":          {{0, 1}, {1, 2}, {2, 1}},
		"turned round":              {{0, 1}, {0, 1}},
		"in no order":               {{0, 1}, {2, 0}, {1, 2}},
		"round twice":               {{0, 1}, {1, 0}, {0, 1}, {1, 0}},
		"an eight":                  {{0, 1}, {1, 0}, {0, 2}, {2, 0}},
		"an eight, from outside":    {{1, 0}, {0, 2}, {2, 0}, {0, 1}},
		"a step on the spot":        {{0, 1}, {1, 1}, {1, 0}},
		"a step on the spot, first": {{0, 0}, {0, 1}, {1, 0}},
		"two cycles":                {{0, 1}, {1, 0}, {2, 3}, {3, 2}},
	} {
		for _, label := range []int{ww, wr, rw, rt} {
			for first := range c {
				var l []api.Why
				for i, p := range c {
					l = append(l, dep(p[0], p[1], ww))
					if i == first {
						l[i].Label = label
					}
				}
				if x := told(l); x != [8]int{} {
					t.Errorf("%s: %v: %v", name, l, x)
				}
			}
		}
	}
}

// P15.1, P15.2: there are four classes.
func TestNoClass(t *testing.T) {
	l := []api.Why{dep(0, 1, ww), dep(0, 1, wr), dep(0, 1, rw), dep(1, 0, ww), dep(1, 0, rw), dep(1, 0, rt)}
	for _, class := range []int{math.MinInt, -1, 0, 1, api.AnOrder, 12, 99, math.MaxInt} {
		for _, real := range []bool{false, true} {
			if c, ok := Find(2, l, class, real); len(c) != 0 || ok {
				t.Error(class, c)
			}
			for _, label := range []int{ww, wr, rw} {
				if Is(ring(label, ww), class, real) {
					t.Error(class, label)
				}
			}
		}
	}
}

// P15.2: which cycle it is.
func TestFind(t *testing.T) {
	for name, c := range map[string]struct {
		n     int
		l     []api.Why
		class int
		real  bool
		want  []api.Why
	}{
		"the chapter's example": {2, []api.Why{dep(0, 1, rw), dep(1, 0, ww)}, api.AnSingle, false, []api.Why{dep(0, 1, rw), dep(1, 0, ww)}},
		"and G2":                {2, []api.Why{dep(0, 1, rw), dep(1, 0, ww)}, api.AnG2, false, []api.Why{dep(0, 1, rw), dep(1, 0, ww)}},
		"the wanted one first":  {3, []api.Why{dep(0, 1, ww), dep(1, 2, rw), dep(2, 0, wr)}, api.AnSingle, false, []api.Why{dep(1, 2, rw), dep(2, 0, wr), dep(0, 1, ww)}},
		"by its From":           {4, []api.Why{dep(3, 2, ww), dep(2, 3, ww), dep(1, 0, ww), dep(0, 1, ww)}, api.AnG0, false, []api.Why{dep(0, 1, ww), dep(1, 0, ww)}},
		"then by its To":        {3, []api.Why{dep(0, 2, wr), dep(2, 0, wr), dep(1, 0, wr), dep(0, 1, wr)}, api.AnG1c, false, []api.Why{dep(0, 1, wr), dep(1, 0, wr)}},
		"the first, not the shortest": {5, []api.Why{dep(0, 1, ww), dep(1, 2, ww), dep(2, 0, ww), dep(3, 4, ww), dep(4, 3, ww)}, api.AnG0, false,
			[]api.Why{dep(0, 1, ww), dep(1, 2, ww), dep(2, 0, ww)}},
		"the shortest path back": {4, []api.Why{dep(0, 1, rw), dep(1, 2, ww), dep(2, 3, ww), dep(3, 0, ww), dep(1, 3, wr)}, api.AnSingle, false,
			[]api.Why{dep(0, 1, rw), dep(1, 3, wr), dep(3, 0, ww)}},
		"the first of the shortest": {5, []api.Why{dep(0, 4, wr), dep(4, 3, ww), dep(3, 0, ww), dep(4, 2, wr), dep(2, 0, ww)}, api.AnG1c, false,
			[]api.Why{dep(0, 4, wr), dep(4, 2, wr), dep(2, 0, ww)}},
		"the least label of the path": {2, []api.Why{dep(0, 1, rw), dep(0, 1, ww), dep(1, 0, rt), dep(1, 0, rw), dep(1, 0, wr)}, api.AnG2, true,
			[]api.Why{dep(0, 1, rw), dep(1, 0, wr)}},
		"the least that it may have": {3, []api.Why{dep(0, 1, rw), dep(0, 1, wr), dep(1, 2, rw), dep(1, 2, wr), dep(2, 0, rw), dep(2, 0, rt)}, api.AnSingle, true,
			[]api.Why{dep(0, 1, rw), dep(1, 2, wr), dep(2, 0, rt)}},
		"the wanted one, though it is not the least": {2, []api.Why{dep(0, 1, ww), dep(0, 1, wr), dep(1, 0, ww), dep(1, 0, wr)}, api.AnG1c, false,
			[]api.Why{dep(0, 1, wr), dep(1, 0, ww)}},
		"an edge without a way back plays no part": {4, []api.Why{dep(0, 1, rw), dep(0, 2, rw), dep(2, 3, ww), dep(3, 0, ww)}, api.AnSingle, false,
			[]api.Why{dep(0, 2, rw), dep(2, 3, ww), dep(3, 0, ww)}},
		"a way back by reads is none of writes": {3, []api.Why{dep(0, 1, ww), dep(1, 0, wr), dep(1, 2, ww), dep(2, 1, ww)}, api.AnG0, false,
			[]api.Why{dep(1, 2, ww), dep(2, 1, ww)}},
		"a way back in time": {3, []api.Why{dep(0, 1, ww), dep(1, 2, rt), dep(2, 0, rt)}, api.AnG0, true,
			[]api.Why{dep(0, 1, ww), dep(1, 2, rt), dep(2, 0, rt)}},
		"with real time, but without any":   {2, []api.Why{dep(0, 1, wr), dep(1, 0, ww)}, api.AnG1c, true, []api.Why{dep(0, 1, wr), dep(1, 0, ww)}},
		"the last node":                     {api.MaxNodes, []api.Why{dep(api.MaxNodes-1, 0, ww), dep(0, api.MaxNodes-1, ww)}, api.AnG0, false, []api.Why{dep(0, api.MaxNodes-1, ww), dep(api.MaxNodes-1, 0, ww)}},
		"two written over: no G-single":     {2, ring(rw, rw), api.AnSingle, true, nil},
		"one written over is no G1c":        {2, ring(rw, wr), api.AnG1c, true, nil},
		"a read is no G0":                   {3, ring(ww, ww, wr), api.AnG0, true, nil},
		"writes alone are no G1c":           {3, ring(ww, ww, ww), api.AnG1c, true, nil},
		"none written over is no G2":        {3, ring(ww, wr, rt), api.AnG2, true, nil},
		"time plays no part without":        {2, ring(rw, rt), api.AnG2, false, nil},
		"time plays no part without, two":   {3, ring(rw, rt, ww), api.AnSingle, false, nil},
		"time plays no part without, three": {2, ring(ww, rt), api.AnG0, false, nil},
		"time alone":                        {2, ring(rt, rt), api.AnG0, true, nil},
		"a path":                            {3, []api.Why{dep(0, 1, rw), dep(1, 2, rw), dep(0, 2, ww)}, api.AnG2, true, nil},
		"the reads' way back is written over": {3, []api.Why{dep(0, 1, rw), dep(1, 2, ww), dep(2, 0, rw), dep(2, 1, rw), dep(1, 0, rw)}, api.AnSingle, false,
			[]api.Why{dep(2, 1, rw), dep(1, 2, ww)}},
		"nothing":   {3, nil, api.AnG2, true, nil},
		"no nodes":  {0, nil, api.AnG2, true, nil},
		"one label": {2, ring(ww, ww), api.AnG2, true, nil},
	} {
		got, ok := Find(c.n, c.l, c.class, c.real)
		if !slices.Equal(got, c.want) || ok != (c.want != nil) {
			t.Errorf("%s: %v %v", name, got, ok)
		}
	}
}

// P15.2: of each edge the dependency that deps.Find tells, with all its fields.
func TestFindTellsWhy(t *testing.T) {
	maybe := api.Why{From: 0, To: 1, Label: rw, Key: "a", A: 1, B: 2, Cond: true}
	sure := api.Why{From: 0, To: 1, Label: rw, Key: "b", B: 4, Nil: true}
	later := api.Why{From: 0, To: 1, Label: rw, Key: "c", A: 5, B: 6}
	other := api.Why{From: 0, To: 1, Label: ww, Key: "a", A: 7, B: 8}
	back := api.Why{From: 1, To: 0, Label: ww, Key: "d", A: 9, B: 10, Cond: true}
	again := api.Why{From: 1, To: 0, Label: ww, Key: "e", A: 11, B: 12, Cond: true}
	surely := api.Why{From: 1, To: 0, Label: wr, Key: "e", A: 13}
	l := []api.Why{other, maybe, back, sure, again, later, surely}
	for _, class := range []int{api.AnSingle, api.AnG2} {
		if c, ok := Find(2, l, class, false); !ok || !slices.Equal(c, []api.Why{sure, back}) {
			t.Error(class, c)
		}
	}
	if c, ok := Find(2, []api.Why{again, maybe, back}, api.AnG2, true); !ok || !slices.Equal(c, []api.Why{maybe, again}) {
		t.Error(c)
	}
}

// P15.2: what is wrong with a dependency that plays no part in the cycle is wrong, too.
func TestWrong(t *testing.T) {
	good := []api.Why{dep(0, 1, ww), dep(0, 1, wr), dep(0, 1, rw), dep(1, 0, ww), dep(1, 0, wr), dep(1, 0, rw)}
	for name, c := range map[string]struct {
		n   int
		bad []api.Why
	}{
		"two labels":          {3, []api.Why{dep(0, 2, ww|wr)}},
		"all labels":          {3, []api.Why{dep(0, 2, 15)}},
		"no label":            {3, []api.Why{dep(0, 2, 0)}},
		"no such label":       {3, []api.Why{dep(0, 2, 16)}},
		"a label below 0":     {3, []api.Why{dep(0, 2, -8)}},
		"the least label":     {3, []api.Why{dep(0, 2, math.MinInt)}},
		"the greatest label":  {3, []api.Why{dep(0, 2, math.MaxInt)}},
		"on itself":           {3, []api.Why{dep(2, 2, ww)}},
		"on itself, in time":  {3, []api.Why{dep(0, 0, rt)}},
		"no such node":        {2, []api.Why{dep(0, 2, rt)}},
		"from no such node":   {2, []api.Why{dep(2, 0, ww)}},
		"a node below 0":      {2, []api.Why{dep(-1, 0, ww)}},
		"the greatest node":   {2, []api.Why{dep(0, math.MaxInt, ww)}},
		"too few nodes":       {1, nil},
		"no nodes":            {0, nil},
		"fewer than none":     {-1, nil},
		"the least number":    {math.MinInt, nil},
		"too many nodes":      {api.MaxNodes + 1, nil},
		"the greatest number": {math.MaxInt, nil},
	} {
		for _, a := range all {
			for _, l := range [][]api.Why{append(slices.Clone(good), c.bad...), append(slices.Clone(c.bad), good...)} {
				if got, ok := Find(c.n, l, a.class, a.real); len(got) != 0 || ok {
					t.Errorf("%s: %v: %v", name, a, got)
				}
			}
			if _, ok := Find(3, good, a.class, a.real); !ok {
				t.Errorf("%s: %v: none without it", name, a)
			}
		}
	}
}

// may is the labels that a class wants of one dependency, and lets the others have, as the chapter says it.
func may(a asked) (wanted int, others []int) {
	switch a.class {
	case api.AnG0:
		wanted, others = ww, []int{ww}
	case api.AnG1c:
		wanted, others = wr, []int{ww, wr}
	case api.AnSingle:
		wanted, others = rw, []int{ww, wr}
	case api.AnG2:
		wanted, others = rw, []int{ww, wr, rw}
	}
	if a.real {
		others = append(others, rt)
	}
	return wanted, others
}

// plain is Find in the chapter's words, edge by edge.
func plain(n int, l []api.Why, a asked) ([]api.Why, bool) {
	wanted, others := may(a)
	labels := 0
	for _, o := range others {
		labels |= o
	}
	g, _ := deps.Graph(n, l)
	for _, e := range g.Edges() {
		path := paths.Shortest(g, labels, e.To, e.From)
		if e.Label&wanted == 0 || len(path) == 0 {
			continue
		}
		first, _ := deps.Find(l, e.From, e.To, wanted)
		c := []api.Why{first}
		for i := 1; i < len(path); i++ {
			for _, o := range others {
				if w, ok := deps.Find(l, path[i-1], path[i], o); ok {
					c = append(c, w)
					break
				}
			}
		}
		return c, true
	}
	return nil, false
}

// rightLabels tells whether a cycle's labels are a class's, by counting them.
func rightLabels(l []api.Why, a asked) bool {
	count := map[int]int{}
	for _, w := range l {
		count[w.Label]++
	}
	if count[rt] > 0 && !a.real {
		return false
	}
	switch a.class {
	case api.AnG0:
		return count[ww] > 0 && count[wr]+count[rw] == 0
	case api.AnG1c:
		return count[wr] > 0 && count[rw] == 0
	case api.AnSingle:
		return count[rw] == 1
	}
	return count[rw] > 0
}

// anyCycle goes through all cycles that begin with a path, and tells whether one is of the class.
func anyCycle(l, path []api.Why, a asked) bool {
	last := path[len(path)-1]
	if last.To == path[0].From {
		return len(path) > 1 && rightLabels(path, a)
	}
	for _, w := range path {
		if w.From == last.To {
			return false
		}
	}
	for _, w := range l {
		if w.From == last.To && anyCycle(l, append(slices.Clone(path), w), a) {
			return true
		}
	}
	return false
}

// P15.2 to P15.4, at random: what the chapter's words tell, a cycle of its class, and just if there is one.
func TestFindAtRandom(t *testing.T) {
	r := rand.New(rand.NewSource(15))
	found, none := [8]int{}, [8]int{}
	for range 6000 {
		n := 2 + r.Intn(4)
		labels := [][]int{{ww, wr, rw, rt}, {ww, wr, rt, rt}, {rw, rw, rt, wr}, {ww, ww, ww, rt}}[r.Intn(4)]
		var l []api.Why
		for i := range r.Intn(10) {
			w := api.Why{From: r.Intn(n), To: r.Intn(n), Label: labels[r.Intn(4)], A: i, Cond: r.Intn(3) == 0}
			if w.From != w.To {
				l = append(l, w)
			}
		}
		for i, a := range all {
			got, ok := Find(n, l, a.class, a.real)
			want, is := plain(n, l, a)
			if !slices.Equal(got, want) || ok != is {
				t.Fatalf("%v, %v: %v, not %v", l, a, got, want)
			}
			if ok && (!Is(got, a.class, a.real) || !rightLabels(got, a)) {
				t.Fatalf("%v, %v: %v is none", l, a, got)
			}
			any := slices.ContainsFunc(l, func(w api.Why) bool { return anyCycle(l, []api.Why{w}, a) })
			if ok != any {
				t.Fatalf("%v, %v: %v", l, a, got)
			}
			if ok {
				found[i]++
			} else {
				none[i]++
			}
		}
	}
	for i := range all {
		if found[i] < 100 || none[i] < 100 {
			t.Error("too few", all[i], found[i], none[i])
		}
	}
}

// P15.1 at random, by counting labels and nodes.
func TestIsAtRandom(t *testing.T) {
	r := rand.New(rand.NewSource(151))
	right := [8]int{}
	for range 20000 {
		nodes := r.Perm(5)[:2+r.Intn(3)]
		var l []api.Why
		for i, node := range nodes {
			l = append(l, dep(node, nodes[(i+1)%len(nodes)], []int{ww, wr, rw, rt}[r.Intn(4)]))
		}
		whole := true
		switch at := r.Intn(len(l)); r.Intn(6) {
		case 0:
			l, whole = slices.Delete(l, at, at+1), false
		case 1:
			l[at].To, whole = l[at].From, false
		case 2:
			l[at].Label |= l[at].Label << 1
			whole = false
		case 3:
			l, whole = append(l, l...), false
		}
		for i, a := range all {
			want := whole && rightLabels(l, a)
			if Is(l, a.class, a.real) != want {
				t.Fatal(l, a, want)
			}
			if want {
				right[i]++
			}
		}
	}
	for i, count := range right {
		if count < 100 {
			t.Error("too few", all[i], count)
		}
	}
}

// Memory: what is handed in is as it was, the room behind it, too; answers are new.
func TestMemory(t *testing.T) {
	l := []api.Why{dep(0, 1, rw), dep(1, 2, ww), dep(2, 0, wr)}
	room := append(slices.Clone(l), dep(9, 9, 9), dep(8, 8, 8))
	handed := slices.Clone(room)
	first, _ := Find(3, handed[:3], api.AnSingle, true)
	second, _ := Find(3, handed[:3], api.AnSingle, true)
	if !Is(handed[:3], api.AnG2, true) || !slices.Equal(handed, room) {
		t.Fatal(handed)
	}
	clear(first[:cap(first)])
	if !slices.Equal(second, l) || !slices.Equal(handed, room) {
		t.Fatal(second, handed)
	}
	clear(handed)
	if third, ok := Find(3, l, api.AnSingle, true); !slices.Equal(second, l) || !slices.Equal(third, l) || !ok {
		t.Fatal(second, third)
	}
}

// Ends: as many nodes and edges as there may be, of which none leads back, but by labels that don't count.
func TestLong(t *testing.T) {
	const n = api.MaxNodes
	var l []api.Why
	for from := range n {
		for to := from + 1; to < n; to++ {
			for _, label := range []int{ww, wr, rw, rt} {
				l = append(l, dep(from, to, label))
			}
		}
	}
	for _, a := range all {
		if c, ok := Find(n, l, a.class, a.real); ok {
			t.Fatal(a, c)
		}
	}
	var slow []api.Why
	for _, w := range l {
		if w.Label != rw || w.To == w.From+1 {
			slow = append(slow, w)
		}
	}
	slow = append(slow, ring(slices.Repeat([]int{rw}, n)...)...)
	for _, class := range []int{api.AnG0, api.AnG1c} {
		if c, ok := Find(n, slow, class, true); ok {
			t.Fatal(class, c)
		}
	}
	want := []api.Why{dep(n-1, 0, rw), dep(0, n-1, ww)}
	if c, ok := Find(n, slow, api.AnSingle, true); !ok || !slices.Equal(c, want) {
		t.Fatal(c)
	}
	big := ring(slices.Repeat([]int{ww, wr}, 100000)...)
	if !Is(big, api.AnG1c, false) || Is(big[1:], api.AnG1c, false) {
		t.Fatal("a long one")
	}
	if c, ok := Find(n, big, api.AnG1c, false); len(c) != 0 || ok {
		t.Fatal(len(c))
	}
	whole := ring(slices.Repeat([]int{wr}, n)...)
	if c, ok := Find(n, whole, api.AnG1c, false); !ok || !slices.Equal(c, whole) {
		t.Fatal(c)
	}
}
