package verdict

import (
	"math/rand"
	"slices"
	"testing"

	"assayer/api"
	"assayer/cycles"
	"assayer/deps"
	"assayer/inner"
	"assayer/levels"
	"assayer/lists"
	"assayer/pair"
	"assayer/realtime"
	"assayer/regs"
	"assayer/search"
	"assayer/table"
	"assayer/witness"
)

var classes = [4]int{api.AnG0, api.AnG1c, api.AnSingle, api.AnG2}

// anything is histories of all kinds of operations and ends.
func anything(r *rand.Rand) mix {
	m := mix{
		kinds:  [][]int{{1, 2}, {3, 4}, {1, 2, 3, 4}, {1, 1, 2, 3, 4, 4}}[r.Intn(4)],
		ends:   [][]int{{api.EvOk}, {api.EvOk, api.EvOk, api.EvOk, api.EvInfo}, {api.EvOk, api.EvOk, api.EvOk, api.EvFail, api.EvInfo}}[r.Intn(3)],
		events: 4 + r.Intn(9), values: 1000, spoil: []int{2, 10, 1000}[r.Intn(3)], readAll: r.Intn(2) == 0,
	}
	if r.Intn(10) == 0 {
		m.values = 4
	}
	return m
}

// txns is the transactions of a history.
func txns(t *testing.T, l []api.Event) []api.Txn {
	t.Helper()
	x, err := pair.Txns(l)
	if err != nil {
		t.Fatal(l, err)
	}
	return x
}

// timeless is transactions that are all at once.
func timeless(l []api.Txn) []api.Txn {
	l = slices.Clone(l)
	for i := range l {
		l[i].From, l[i].To = 0, -1
	}
	return l
}

// answer is the search's, with as many steps as it wants.
func answer(t *testing.T, l []api.Txn) int {
	t.Helper()
	a, _, _ := search.Search(l, api.MaxSteps)
	if a == api.AnswerUnknown {
		t.Fatal("unknown", l)
	}
	return a
}

// surely tells whether a cycle is of ok transactions and without conditions.
func surely(l []api.Txn, c []api.Why) bool {
	for _, w := range c {
		if w.Cond || l[w.From].State != api.TxOk {
			return false
		}
	}
	return true
}

// words is P20.1 as the chapter says it.
func words(l []api.Txn, real bool) []api.Anomaly {
	var all []api.Anomaly
	tell := func(a api.Anomaly) {
		a.Level = levels.Refutes(a.Kind, a.Real, surely(l, a.Cycle))
		all = append(all, a)
	}
	for n, x := range l {
		if op := inner.Check(x.Ops); x.State == api.TxOk && op != -1 {
			tell(api.Anomaly{Kind: api.AnInternal, Txn: n, Op: op})
		}
	}
	t := table.New(l)
	for _, key := range t.Keys() {
		for _, a := range append(lists.Anomalies(t, key), regs.Anomalies(t, key)...) {
			tell(a)
		}
	}
	for _, class := range classes {
		c, ok := cycles.Find(len(l), deps.All(t, false), class, false)
		if ok {
			tell(api.Anomaly{Kind: class, Cycle: c})
		} else if c, ok = cycles.Find(len(l), deps.All(t, true), class, true); real && ok {
			tell(api.Anomaly{Kind: class, Cycle: c, Real: true})
		}
	}
	return all
}

// P20.1 and P20.2: what is told of any history is what the chapter's words tell.
func TestAtRandom(t *testing.T) {
	r := rand.New(rand.NewSource(20))
	kinds := [2][12]int{}
	for range 10000 {
		l := history(r, anything(r))
		x := txns(t, l)
		o := api.Options{Real: r.Intn(2) == 0, Search: r.Intn(2) == 0, Steps: []int{0, 2, 1000}[r.Intn(3)]}
		want := api.Report{Txns: len(x), Unique: table.New(x).Unique(), Anomalies: words(x, o.Real)}
		for _, a := range want.Anomalies {
			if want.Level == api.LevelNone || a.Level < want.Level {
				want.Level = a.Level
			}
			if a.Real {
				kinds[1][a.Kind]++
			} else {
				kinds[0][a.Kind]++
			}
		}
		if o.Search {
			want.Answer, want.Order, _ = search.Search(x, o.Steps)
		}
		got, err := Judge(l, o)
		if err != nil || !same(got, want) {
			t.Fatalf("%v, %v:\n%v, not\n%v", l, o, got, want)
		}
		if a := Anomalies(x, o.Real); !sameAll(a, want.Anomalies) {
			t.Fatalf("%v:\n%v, not\n%v", x, a, want.Anomalies)
		}
	}
	for kind := api.AnInternal; kind <= api.AnG2; kind++ {
		if kinds[0][kind] < 10 || kind >= api.AnG0 && kinds[1][kind] < 10 {
			t.Error("too few of kind", kind, kinds[0][kind], kinds[1][kind])
		}
	}
}

// P2: where an anomaly is told there is no order; where one is told without real time there is none even if all were at once.
func TestSound(t *testing.T) {
	r := rand.New(rand.NewSource(2))
	told, silent := 0, 0
	for range 20000 {
		l := txns(t, history(r, anything(r)))
		if len(Anomalies(l, true)) == 0 {
			silent++
			continue
		}
		told++
		if answer(t, l) != api.AnswerNo {
			t.Fatal(l, Anomalies(l, true))
		}
		if a := Anomalies(l, false); len(a) > 0 && answer(t, timeless(l)) != api.AnswerNo {
			t.Fatal(l, a)
		}
	}
	if told < 4000 || silent < 4000 {
		t.Fatal("too much alike", told, silent)
	}
}

// isRead tells whether each append is in some read.
func isRead(l []api.Txn) bool {
	type version struct {
		key   string
		value int
	}
	read := map[version]int{}
	for _, x := range l {
		for _, o := range x.Ops {
			for _, v := range o.List {
				read[version{o.Key, v}]++
			}
		}
	}
	for _, x := range l {
		for _, o := range x.Ops {
			if o.Kind == api.OpAppend && read[version{o.Key, o.Value}] == 0 {
				return false
			}
		}
	}
	return true
}

// allOk tells whether all transactions are.
func allOk(l []api.Txn) bool {
	return !slices.ContainsFunc(l, func(x api.Txn) bool { return x.State != api.TxOk })
}

// P3: of lists alone, all ok, each value appended once, and read: nothing is told just if there is an order. Without real time: just if there is one of all at once.
func TestWhole(t *testing.T) {
	r := rand.New(rand.NewSource(3))
	seen := [2][3]int{}
	for range 12000 {
		m := mix{kinds: [][]int{{1, 2}, {1, 1, 2}, {1, 2, 2}}[r.Intn(3)], ends: []int{api.EvOk}, events: 2 + r.Intn(11), values: 1000, spoil: []int{5, 50, 1000}[r.Intn(3)], readAll: true}
		l := txns(t, history(r, m))
		if !allOk(l) || !isRead(l) {
			continue
		}
		for i, x := range [][]api.Txn{l, timeless(l)} {
			a := answer(t, x)
			seen[i][a]++
			if told := Anomalies(x, true); (len(told) == 0) != (a == api.AnswerYes) {
				t.Fatal(x, told, a)
			}
			if told := Anomalies(x, false); i == 1 && (len(told) == 0) != (a == api.AnswerYes) {
				t.Fatal(x, told, a)
			}
		}
	}
	for _, s := range seen {
		if min(s[api.AnswerYes], s[api.AnswerNo]) < 2000 {
			t.Fatal("too much alike", seen)
		}
	}
}

// leads tells whether dependencies with some labels lead from a transaction to another one.
func leads(l []api.Why, labels, from, to int) bool {
	reached := map[int]struct{}{from: {}}
	for range l {
		for _, w := range l {
			if _, ok := reached[w.From]; ok && w.Label&labels != 0 {
				reached[w.To] = struct{}{}
			}
		}
	}
	_, ok := reached[to]
	return ok
}

// has tells whether dependencies have a cycle of a class.
func has(l []api.Why, class int) bool {
	wanted, others := api.LabelRW, api.LabelWW|api.LabelWR|api.LabelRT
	switch class {
	case api.AnG0:
		wanted, others = api.LabelWW, api.LabelWW|api.LabelRT
	case api.AnG1c:
		wanted = api.LabelWR
	case api.AnG2:
		others |= api.LabelRW
	}
	return slices.ContainsFunc(l, func(w api.Why) bool { return w.Label == wanted && leads(l, others, w.To, w.From) })
}

// P4: each anomaly that is told is shown; of each class a cycle is told just if there is one.
func TestWitnesses(t *testing.T) {
	r := rand.New(rand.NewSource(4))
	counts := [12]int{}
	for range 6000 {
		l := txns(t, history(r, anything(r)))
		for _, real := range []bool{false, true} {
			told := Anomalies(l, real)
			for _, a := range told {
				counts[a.Kind]++
				if !witness.Check(l, a) {
					t.Fatal(l, a)
				}
				a.Level++
				if witness.Check(l, a) {
					t.Fatal(l, a)
				}
			}
			all := deps.All(table.New(l), real)
			for _, class := range classes {
				is := slices.ContainsFunc(told, func(a api.Anomaly) bool { return a.Kind == class })
				if is != has(all, class) {
					t.Fatal(l, class, told)
				}
			}
		}
	}
	for kind := api.AnInternal; kind <= api.AnG2; kind++ {
		if counts[kind] < 50 {
			t.Error("too few of kind", kind, counts[kind])
		}
	}
}

// rounds tells each way round, from a dependency that it begins with, through no transaction twice.
func rounds(l, path []api.Why, tell func([]api.Why)) {
	last := path[len(path)-1]
	if last.To == path[0].From {
		tell(path)
		return
	}
	for _, w := range path {
		if w.From == last.To {
			return
		}
	}
	for _, w := range l {
		if w.From == last.To && len(path) < 4 {
			rounds(l, append(slices.Clone(path), w), tell)
		}
	}
}

// P19.1 to P19.3: each cycle of dependencies, those of real time between which there is a third one among them, is shown as what it is; and where one is, the search does not answer yes.
func TestShown(t *testing.T) {
	r := rand.New(rand.NewSource(193))
	shown := [2]int{}
	for range 3000 {
		m := anything(r)
		m.events = min(m.events, 10)
		l := txns(t, history(r, m))
		all := deps.All(table.New(l), false)
		for _, p := range realtime.Full(l) {
			all = append(all, api.Why{From: p[0], To: p[1], Label: api.LabelRT})
		}
		any := false
		for _, w := range all {
			if !witness.Holds(l, w) {
				t.Fatal(l, w)
			}
			rounds(all, []api.Why{w}, func(c []api.Why) {
				for _, class := range classes {
					real := slices.ContainsFunc(c, isOfTime)
					a := api.Anomaly{Kind: class, Cycle: c, Real: real, Level: levels.Refutes(class, real, surely(l, c))}
					is := cycles.Is(c, class, real)
					any = any || is
					if witness.Check(l, a) != is {
						t.Fatal(l, a)
					}
				}
			})
		}
		if any {
			shown[1]++
			if answer(t, l) != api.AnswerNo {
				t.Fatal(l)
			}
		} else {
			shown[0]++
		}
	}
	if min(shown[0], shown[1]) < 300 {
		t.Fatal("too much alike", shown)
	}
}

// scrap is transactions of anything at all.
func scrap(r *rand.Rand) []api.Txn {
	number := func() int { return []int{-1 << 63, -1, 0, 1, 2, 3, 4, 1<<63 - 1}[r.Intn(8)] }
	l := make([]api.Txn, r.Intn(7))
	value := 0
	for i := range l {
		l[i] = api.Txn{Proc: number(), State: api.TxOk, From: number(), To: number()}
		if r.Intn(4) == 0 {
			l[i].State = number()
		}
		for range r.Intn(5) {
			value++
			o := api.Op{Kind: 1 + r.Intn(4), Key: []string{"", "x"}[r.Intn(2)], Value: value, Has: r.Intn(6) > 0, Nil: r.Intn(4) == 0}
			switch r.Intn(12) {
			case 0:
				o.Kind = number()
			case 1:
				o.Value = number()
			}
			for range r.Intn(3) {
				o.List = append(o.List, 1+r.Intn(value))
			}
			if o.Kind == api.OpGet {
				o.Value = 1 + r.Intn(value)
			}
			l[i].Ops = append(l[i].Ops, o)
		}
	}
	return l
}

// P4, P20.1, Ends: of anything at all what is told is what the chapter's words tell, and is shown.
func TestScrap(t *testing.T) {
	r := rand.New(rand.NewSource(201))
	told := [12]int{}
	for range 20000 {
		l := scrap(r)
		for _, real := range []bool{false, true} {
			all := Anomalies(l, real)
			if want := words(l, real); !sameAll(all, want) {
				t.Fatalf("%v:\n%v, not\n%v", l, all, want)
			}
			for _, a := range all {
				told[a.Kind]++
				if !witness.Check(l, a) {
					t.Fatal(l, a)
				}
			}
		}
	}
	for kind := api.AnInternal; kind <= api.AnG2; kind++ {
		if told[kind] < 3 {
			t.Error("too few of kind", kind, told[kind])
		}
	}
}
