package regs

import (
	"math/rand"
	"reflect"
	"slices"
	"testing"

	"assayer/api"
	"assayer/table"
)

// site is an operation, found by its place.
type site struct{ n, i int }

// word is the chapter of the key x, word by word.
type word struct {
	l    []api.Txn
	gets []site
}

func say(l []api.Txn) *word {
	w := &word{l: l}
	for n, x := range l {
		for i, o := range x.Ops {
			if x.State == api.TxOk && o.Kind == api.OpGet && o.Has && o.Key == "x" {
				w.gets = append(w.gets, site{n, i})
			}
		}
	}
	return w
}

func (w *word) op(s site) api.Op { return w.l[s.n].Ops[s.i] }

// writes tells whether an operation writes the key x, be it as a register or as a list.
func writes(o api.Op) bool {
	return o.Key == "x" && (o.Kind == api.OpWrite || o.Kind == api.OpAppend)
}

func (w *word) writer(v int) (site, bool) {
	for n, x := range w.l {
		for i, o := range x.Ops {
			if writes(o) && o.Value == v {
				return site{n, i}, true
			}
		}
	}
	return site{}, false
}

func (w *word) final(s site) bool { return !slices.ContainsFunc(w.l[s.n].Ops[s.i+1:], writes) }

// outer tells whether a get is the first thing that its transaction does to the register.
func (w *word) outer(s site) bool {
	return !slices.ContainsFunc(w.l[s.n].Ops[:s.i], func(o api.Op) bool {
		return o.Key == "x" && (o.Kind == api.OpWrite || o.Kind == api.OpGet && o.Has)
	})
}

// wrong tells whether a get has an anomaly of a kind.
func (w *word) wrong(kind int, s site) (api.Anomaly, bool) {
	v := w.op(s).Value
	from, known := w.writer(v)
	switch {
	case w.op(s).Nil:
		return api.Anomaly{}, false
	case kind == api.AnGarbage:
		return one(kind, s.n, s.i, 0, v), !known || from.n == s.n && from.i > s.i
	case kind == api.AnAborted:
		return one(kind, s.n, s.i, from.n, v), known && w.l[from.n].State != api.TxOk && w.l[from.n].State != api.TxInfo
	}
	return one(kind, s.n, s.i, from.n, v), known && from.n != s.n && !w.final(from)
}

// known is the values of the known versions.
func (w *word) known() []int {
	least := map[int]struct{}{}
	for n, x := range w.l {
		for i, o := range x.Ops {
			if x.State == api.TxOk && writes(o) && w.final(site{n, i}) {
				least[o.Value] = struct{}{}
			}
		}
	}
	for _, s := range w.gets {
		from, _ := w.writer(w.op(s).Value)
		if !w.op(s).Nil && (w.final(from) || from.n != s.n) {
			least[w.op(s).Value] = struct{}{}
		}
	}
	var l []int
	for v := range least {
		l = append(l, v)
	}
	slices.Sort(l)
	return l
}

// number is that of the version that a get has; -1: none that is known.
func (w *word) number(s site, known []int) int {
	if w.op(s).Nil {
		return 0
	}
	at := slices.Index(known, w.op(s).Value)
	if at < 0 {
		return -1
	}
	return at + 1
}

// ahead is which version stands ahead of which, with all that follows.
func (w *word) ahead(known []int) [][]bool {
	m := make([][]bool, len(known)+1)
	for a := range m {
		m[a] = make([]bool, len(m))
		for b := range m {
			m[a][b] = a == 0 && b > 0
		}
	}
	for _, s := range w.gets {
		for i, o := range w.l[s.n].Ops {
			if !writes(o) || !w.final(site{s.n, i}) {
				continue
			}
			a, b := w.number(s, known), slices.Index(known, o.Value)+1
			if w.outer(s) && a >= 0 && a != b {
				m[a][b] = true
			}
		}
	}
	for k := range m {
		for a := range m {
			for b := range m {
				m[a][b] = m[a][b] || m[a][k] && m[k][b]
			}
		}
	}
	return m
}

// all is the anomalies, the versions and their order; false: nothing is told of the versions.
func (w *word) all() (l []api.Anomaly, known []int, ahead [][]bool, told bool) {
	told = true
	for _, kind := range []int{api.AnGarbage, api.AnAborted, api.AnMiddle} {
		for _, s := range w.gets {
			if a, ok := w.wrong(kind, s); ok {
				l = append(l, a)
				told = told && kind == api.AnMiddle
			}
		}
	}
	if !told {
		return l, nil, nil, false
	}
	known = w.known()
	ahead = w.ahead(known)
	for v := range ahead {
		if ahead[v][v] {
			return append(l, disorder), nil, nil, false
		}
	}
	return l, known, ahead, true
}

func (w *word) edges(known []int, ahead [][]bool) []api.Why {
	var l []api.Why
	add := func(x api.Why) {
		if x.From != x.To && !slices.Contains(l, x) {
			l = append(l, x)
		}
	}
	from := func(v int) int { s, _ := w.writer(v); return s.n }
	for a, va := range known {
		for b, vb := range known {
			if ahead[a+1][b+1] {
				add(ww(from(va), from(vb), va, vb))
			}
		}
	}
	for _, s := range w.gets {
		if o := w.op(s); w.outer(s) && !o.Nil {
			add(wr(from(o.Value), s.n, o.Value))
		}
	}
	for _, s := range w.gets {
		v := w.number(s, known)
		for b, vb := range known {
			switch {
			case v < 0 || !w.outer(s) || !ahead[v][b+1]:
			case v == 0:
				add(rwNil(s.n, from(vb), vb))
			default:
				add(rw(s.n, from(vb), known[v-1], vb))
			}
		}
	}
	return l
}

// made is transactions at random. Calm ones get only what was written before; full ones write, in the end, all that anybody got.
func made(r *rand.Rand) []api.Txn {
	values := r.Perm(7)
	calm, full, mixed := r.Intn(2) > 0, r.Intn(2) > 0, r.Intn(4) == 0
	var l []api.Txn
	next := 0
	for range 1 + r.Intn(6) {
		x := api.Txn{State: api.TxOk}
		if r.Intn(6) == 0 {
			x.State = []int{api.TxInfo, api.TxInfo, api.TxFail, 0, 9}[r.Intn(5)]
		}
		for range r.Intn(5) {
			key := "x"
			if r.Intn(8) == 0 {
				key = "y"
			}
			o := got(key, values[r.Intn(len(values))])
			switch kind := r.Intn(8); {
			case kind < 4 && next < len(values):
				o = put(key, values[next])
				if mixed && kind == 0 {
					o.Kind = api.OpAppend
				}
				next++
			case kind == 4:
				o = none(key)
				o.Value = r.Intn(2) * r.Intn(9)
			case kind == 5 && !calm:
				o = api.Op{Kind: r.Intn(7) - 1, Key: key, Value: 10 + r.Intn(90000), Has: r.Intn(2) == 0}
			case calm && next > 0:
				o.Value = values[r.Intn(next)]
			}
			x.Ops = append(x.Ops, o)
		}
		l = append(l, x)
	}
	for full && next < len(values) {
		l = append(l, ok(put("x", values[next])))
		next++
	}
	if r.Intn(2) == 0 {
		r.Shuffle(len(l), func(i, j int) { l[i], l[j] = l[j], l[i] })
	}
	return l
}

// steps is transactions of which most get what another one writes, and write over it.
func steps(r *rand.Rand) []api.Txn {
	values := r.Perm(2 + r.Intn(5))
	var l []api.Txn
	for i, v := range values {
		x := ok(got("x", values[(i+1+r.Intn(len(values)-1))%len(values)]), put("x", v))
		switch r.Intn(8) {
		case 0:
			x.Ops[0] = none("x")
		case 1:
			x.Ops = x.Ops[1:]
		case 2:
			x.State = api.TxInfo
		case 3:
			x.Ops = append(x.Ops, put("x", v+10))
		case 4:
			x.Ops = []api.Op{app("x", v), got("x", v), put("x", v+10)}[:2+r.Intn(2)]
		}
		l = append(l, x)
	}
	return l
}

// strange is how many outer gets are of what their own transaction appended: of its last write, or of no known version.
func (w *word) strange() int {
	many := 0
	for _, s := range w.gets {
		if from, ok := w.writer(w.op(s).Value); ok && !w.op(s).Nil && w.outer(s) && from.n == s.n && from.i < s.i {
			many++
		}
	}
	return many
}

// P12.1 to P12.3: against the chapter's words.
func TestAtRandom(t *testing.T) {
	r := rand.New(rand.NewSource(12))
	kinds := map[int]int{}
	for range 60000 {
		l := made(r)
		if r.Intn(3) == 0 {
			l = steps(r)
		}
		x := table.New(l)
		if x.Kind("x") != api.OpWrite || !x.Unique() {
			continue
		}
		w := say(l)
		kinds[0] += w.strange()
		anomalies, known, ahead, told := w.all()
		if a := Anomalies(x, "x"); !reflect.DeepEqual(a, anomalies) {
			t.Fatalf("%v:\n%v, not\n%v", l, a, anomalies)
		}
		for _, a := range anomalies {
			kinds[a.Kind]++
		}
		var pairs [][2]int
		for a := range ahead {
			for b := range ahead {
				if ahead[a][b] {
					pairs = append(pairs, [2]int{a, b})
				}
			}
		}
		if v, p, ok := Versions(x, "x"); ok != told || !slices.Equal(v, known) || !slices.Equal(p, pairs) {
			t.Fatalf("%v: %v %v %v, not %v %v", l, v, p, ok, known, pairs)
		}
		var edges []api.Why
		if told {
			edges = w.edges(known, ahead)
		}
		for _, e := range edges {
			kinds[-e.Label]++
		}
		if e := Edges(x, "x"); !slices.Equal(e, edges) {
			t.Fatalf("%v:\n%v, not\n%v", l, e, edges)
		}
	}
	for _, kind := range []int{0, -api.LabelWW, -api.LabelWR, -api.LabelRW, api.AnGarbage, api.AnAborted, api.AnMiddle, api.AnOrder} {
		if kinds[kind] < 300 {
			t.Error("too few of kind", kind, kinds[kind])
		}
	}
}

// state is what a register is: nothing, if it was never written.
type state struct {
	value int
	there bool
}

// serial is transactions of a store that does one at a time. What failed was not done; what is of unknown end, perhaps.
func serial(r *rand.Rand) []api.Txn {
	store := map[string]state{}
	var l []api.Txn
	values := r.Perm(100)
	for range r.Intn(12) {
		x := api.Txn{State: 1 + r.Intn(3)*r.Intn(2)}
		mine := map[string]state{"x": store["x"], "y": store["y"]}
		for range r.Intn(6) {
			key := []string{"x", "y"}[r.Intn(2)]
			o := api.Op{Kind: api.OpGet, Key: key}
			if r.Intn(2) == 0 {
				o = put(key, values[0])
				mine[key] = state{values[0], true}
				values = values[1:]
			} else if x.State == api.TxOk && mine[key].there {
				o = got(key, mine[key].value)
			} else if x.State == api.TxOk {
				o = none(key)
			}
			x.Ops = append(x.Ops, o)
		}
		if x.State == api.TxOk || x.State == api.TxInfo && r.Intn(2) == 0 {
			store = mine
		}
		l = append(l, x)
	}
	return l
}

// P12.4
func TestOneAtATime(t *testing.T) {
	r := rand.New(rand.NewSource(124))
	edges := 0
	for range 3000 {
		l := serial(r)
		x := table.New(l)
		for _, key := range x.Keys() {
			if a := Anomalies(x, key); len(a) != 0 {
				t.Fatal(l, a)
			}
			if _, _, ok := Versions(x, key); !ok {
				t.Fatal(l, key)
			}
			for _, w := range Edges(x, key) {
				edges++
				if w.From >= w.To || w.Key != key {
					t.Fatal(l, w)
				}
			}
		}
	}
	if edges < 5000 {
		t.Fatal("too few", edges)
	}
}
