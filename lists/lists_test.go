package lists

import (
	"math"
	"math/rand"
	"reflect"
	"slices"
	"testing"

	"assayer/api"
	"assayer/table"
)

func app(key string, value int) api.Op { return api.Op{Kind: api.OpAppend, Key: key, Value: value} }
func put(key string, value int) api.Op { return api.Op{Kind: api.OpWrite, Key: key, Value: value} }
func saw(key string, l ...int) api.Op {
	return api.Op{Kind: api.OpRead, Key: key, List: l, Has: true}
}
func ok(l ...api.Op) api.Txn      { return api.Txn{State: api.TxOk, Ops: l} }
func failed(l ...api.Op) api.Txn  { return api.Txn{State: api.TxFail, Ops: l} }
func unknown(l ...api.Op) api.Txn { return api.Txn{State: api.TxInfo, Ops: l} }

func ww(from, to, a, b int) api.Why {
	return api.Why{From: from, To: to, Label: api.LabelWW, Key: "x", A: a, B: b}
}
func wr(from, to, a int) api.Why {
	return api.Why{From: from, To: to, Label: api.LabelWR, Key: "x", A: a}
}
func rw(from, to, a, b int) api.Why {
	return api.Why{From: from, To: to, Label: api.LabelRW, Key: "x", A: a, B: b}
}
func rwNil(from, to, b int) api.Why {
	return api.Why{From: from, To: to, Label: api.LabelRW, Key: "x", B: b, Nil: true}
}

// one is an anomaly of the key x.
func one(kind, txn, op, other, value int) api.Anomaly {
	return api.Anomaly{Kind: kind, Txn: txn, Op: op, Other: other, Key: "x", Value: value}
}

// P10.1: each kind with its fields, and their edges.
func TestAnomalies(t *testing.T) {
	for name, c := range map[string]struct {
		l    []api.Txn
		want []api.Anomaly
	}{
		"nothing read":                  {[]api.Txn{ok(app("x", 1))}, nil},
		"nothing wrong":                 {[]api.Txn{ok(app("x", 1), saw("x", 1))}, nil},
		"twice":                         {[]api.Txn{ok(app("x", 1)), ok(saw("y"), saw("x", 1, 1))}, []api.Anomaly{one(api.AnTwice, 1, 1, 0, 1)}},
		"twice: the first repeated":     {[]api.Txn{ok(app("x", 1)), ok(app("x", 2)), ok(saw("x", 1, 2, 2, 1))}, []api.Anomaly{one(api.AnTwice, 2, 0, 0, 2)}},
		"garbage":                       {[]api.Txn{ok(saw("x", 5, 6))}, []api.Anomaly{one(api.AnGarbage, 0, 0, 0, 5)}},
		"garbage: of another key":       {[]api.Txn{ok(app("y", 5)), ok(saw("x", 5))}, []api.Anomaly{one(api.AnGarbage, 1, 0, 0, 5)}},
		"garbage: in the middle":        {[]api.Txn{ok(app("x", 1)), ok(app("x", 2)), ok(saw("x", 1, 7, 2))}, []api.Anomaly{one(api.AnGarbage, 2, 0, 0, 7)}},
		"garbage: its own later one":    {[]api.Txn{ok(saw("x", 1), app("x", 1))}, []api.Anomaly{one(api.AnGarbage, 0, 0, 0, 1)}},
		"its own earlier one":           {[]api.Txn{ok(app("x", 1), saw("x", 1))}, nil},
		"its own earlier, not final":    {[]api.Txn{ok(app("x", 1), saw("x", 1), app("x", 2))}, nil},
		"another's later one":           {[]api.Txn{ok(saw("x", 1)), ok(saw("y"), saw("y"), app("x", 1))}, nil},
		"aborted":                       {[]api.Txn{ok(app("x", 1)), failed(app("x", 2)), failed(app("x", 3)), ok(saw("x", 1, 2, 3))}, []api.Anomaly{one(api.AnAborted, 3, 0, 1, 2)}},
		"aborted: not of unknown end":   {[]api.Txn{unknown(app("x", 1)), ok(saw("x", 1))}, nil},
		"aborted: states that are none": {[]api.Txn{{State: 0, Ops: []api.Op{app("x", 1)}}, {State: 4, Ops: []api.Op{app("x", 2)}}, ok(saw("x", 1)), ok(saw("x", 1, 2))}, []api.Anomaly{one(api.AnAborted, 2, 0, 0, 1), one(api.AnAborted, 3, 0, 0, 1)}},
		"middle":                        {[]api.Txn{ok(saw("y"), app("x", 1), app("x", 2)), ok(saw("x", 1))}, []api.Anomaly{one(api.AnMiddle, 1, 0, 0, 1)}},
		"middle: only the last value":   {[]api.Txn{ok(app("x", 1), app("x", 2)), ok(saw("x", 1, 2))}, nil},
		"middle: of unknown end":        {[]api.Txn{ok(saw("y")), unknown(app("x", 1), app("x", 2)), ok(saw("x", 1))}, []api.Anomaly{one(api.AnMiddle, 2, 0, 1, 1)}},
		"middle: never read on":         {[]api.Txn{ok(app("x", 3)), ok(app("x", 1), app("x", 2)), ok(saw("x", 3, 1))}, []api.Anomaly{one(api.AnMiddle, 2, 0, 1, 1)}},
		"fork":                          {[]api.Txn{ok(app("x", 1)), ok(app("x", 2)), ok(saw("x", 1)), ok(saw("x", 2))}, []api.Anomaly{one(api.AnFork, 3, 0, 2, 0)}},
		"fork: by the longest":          {[]api.Txn{ok(app("x", 1)), ok(app("x", 2)), ok(app("x", 3)), ok(saw("x", 1)), ok(saw("x", 2, 3)), ok(saw("x", 2)), ok(saw("x"))}, []api.Anomaly{one(api.AnFork, 3, 0, 4, 0)}},
		"fork: by the first longest":    {[]api.Txn{ok(app("x", 1)), ok(app("x", 2)), ok(app("x", 3)), ok(saw("x", 1, 2)), ok(saw("x", 1, 3)), ok(saw("x", 1))}, []api.Anomaly{one(api.AnFork, 4, 0, 3, 0)}},
		"fork: in one transaction":      {[]api.Txn{ok(app("x", 1)), ok(app("x", 2)), ok(saw("x", 1), saw("x", 2, 1))}, []api.Anomaly{one(api.AnFork, 2, 0, 2, 0)}},
		"order":                         {[]api.Txn{ok(app("x", 3)), ok(app("x", 4)), ok(app("x", 1), app("x", 2)), ok(saw("x", 2, 3, 1, 4))}, []api.Anomaly{one(api.AnOrder, 2, 0, 0, 1)}},
		"order: several":                {[]api.Txn{ok(app("x", 1), app("x", 2), app("x", 3)), ok(app("x", 4)), ok(saw("x", 3, 1, 2, 4))}, []api.Anomaly{one(api.AnOrder, 0, 0, 0, 1), one(api.AnOrder, 0, 0, 0, 2)}},
		"order: of two transactions":    {[]api.Txn{ok(app("x", 1), app("x", 2), app("x", 3)), ok(app("x", 4), app("x", 5)), ok(saw("x", 2, 5, 1, 4, 3))}, []api.Anomaly{one(api.AnOrder, 0, 0, 0, 1), one(api.AnOrder, 1, 0, 0, 4)}},
		"order: beside middle":          {[]api.Txn{ok(app("x", 1), app("x", 2)), ok(saw("x", 2, 1))}, []api.Anomaly{one(api.AnMiddle, 1, 0, 0, 1), one(api.AnOrder, 0, 0, 0, 1)}},
		"order: only of the trace":      {[]api.Txn{ok(app("x", 1), app("x", 2)), ok(saw("x", 1, 2)), ok(saw("x", 2, 1))}, []api.Anomaly{one(api.AnMiddle, 2, 0, 0, 1), one(api.AnFork, 2, 0, 1, 0)}},
		"order: not beside garbage":     {[]api.Txn{ok(app("x", 1), app("x", 2)), ok(saw("x", 2, 1, 9))}, []api.Anomaly{one(api.AnGarbage, 1, 0, 0, 9)}},
		"order: not beside twice":       {[]api.Txn{ok(app("x", 1), app("x", 2)), ok(saw("x", 2, 1, 2))}, []api.Anomaly{one(api.AnTwice, 1, 0, 0, 2)}},
		"order: not beside aborted":     {[]api.Txn{ok(app("x", 1), app("x", 2)), ok(saw("x", 2, 1, 3)), failed(app("x", 3))}, []api.Anomaly{one(api.AnAborted, 1, 0, 2, 3)}},
		"order: of unknown end":         {[]api.Txn{unknown(app("x", 1), app("x", 2)), ok(app("x", 3)), ok(saw("x", 2, 1, 3))}, []api.Anomaly{one(api.AnOrder, 0, 0, 0, 1)}},
		"reads that do not count":       {[]api.Txn{failed(saw("x", 9)), unknown(saw("x", 9)), {State: 7, Ops: []api.Op{saw("x", 9)}}, ok(api.Op{Kind: api.OpRead, Key: "x", List: []int{9}}), ok(api.Op{Kind: api.OpGet, Key: "x", Value: 9, Has: true})}, nil},
		"kinds that are none":           {[]api.Txn{ok(app("x", 1)), ok(api.Op{Kind: 9, Key: "x", Value: 2, List: []int{7}, Has: true}), ok(saw("x", 2))}, []api.Anomaly{one(api.AnGarbage, 2, 0, 0, 2)}},
		"greatest values":               {[]api.Txn{ok(app("x", math.MinInt)), ok(saw("x", math.MinInt, math.MaxInt))}, []api.Anomaly{one(api.AnGarbage, 1, 0, 0, math.MaxInt)}},
	} {
		if got := Anomalies(table.New(c.l), "x"); !reflect.DeepEqual(got, c.want) {
			t.Errorf("%s:\n%v, not\n%v", name, got, c.want)
		}
	}
}

// P10.1: kind by kind, each of them read by read, one of a kind for a read.
func TestAnomaliesInOrder(t *testing.T) {
	l := []api.Txn{
		ok(app("x", 1), app("x", 2)),
		failed(app("x", 3), app("x", 4)),
		ok(saw("x", 8, 8, 9, 9), saw("x", 1)),
		ok(saw("x", 3), app("x", 5), saw("x", 3, 3, 6, 6, 1), app("x", 6)),
	}
	want := []api.Anomaly{
		one(api.AnTwice, 2, 0, 0, 8), one(api.AnTwice, 3, 2, 0, 3),
		one(api.AnGarbage, 2, 0, 0, 8), one(api.AnGarbage, 3, 2, 0, 6),
		one(api.AnAborted, 3, 0, 1, 3), one(api.AnAborted, 3, 2, 1, 3),
		one(api.AnMiddle, 2, 1, 0, 1), one(api.AnMiddle, 3, 0, 1, 3), one(api.AnMiddle, 3, 2, 0, 1),
		one(api.AnFork, 2, 0, 3, 0), one(api.AnFork, 2, 1, 3, 0),
	}
	if got := Anomalies(table.New(l), "x"); !reflect.DeepEqual(got, want) {
		t.Fatalf("%v", got)
	}
}

// P10.1 to P10.3: of other keys, and of a table that is not unique, nothing is told.
func TestNothingTold(t *testing.T) {
	wrong := []api.Op{saw("x", 1, 1), put("p", 1), {Kind: api.OpGet, Key: "q", Has: true}, saw("q", 5), saw("z"), {Kind: 9, Key: "n"}}
	unique := table.New([]api.Txn{ok(wrong...)})
	double := table.New([]api.Txn{ok(wrong...), ok(app("x", 1), saw("x", 1)), ok(app("y", 1)), ok(app("y", 1), saw("y", 1))})
	elsewhere := table.New([]api.Txn{ok(app("x", 1)), ok(saw("x", 1), app("x", 2), saw("x", 1, 2)), ok(put("p", 1)), failed(put("p", 1))})
	for _, c := range []struct {
		t    *table.Table
		keys []string
	}{
		{unique, []string{"p", "q", "n", "", "xx"}}, {double, []string{"x", "y", "z", "p"}}, {elsewhere, []string{"x", "p"}},
		{nil, []string{"x", ""}}, {&table.Table{}, []string{"x", ""}}, {table.New(nil), []string{"x", ""}},
	} {
		for _, key := range c.keys {
			l, ok := Trace(c.t, key)
			if a, e := Anomalies(c.t, key), Edges(c.t, key); len(a) != 0 || len(l) != 0 || ok || len(e) != 0 {
				t.Errorf("%q: %v %v %v %v", key, a, l, ok, e)
			}
		}
	}
	if len(Anomalies(unique, "x")) != 2 {
		t.Fatal(Anomalies(unique, "x"))
	}
}

// P10.2
func TestTrace(t *testing.T) {
	base := []api.Txn{ok(app("x", 1), app("x", 2)), ok(app("x", 3)), failed(app("x", 4)), unknown(app("x", 5))}
	for name, c := range map[string]struct {
		l     []api.Op
		trace []int
		ok    bool
	}{
		"no reads":        {nil, nil, true},
		"an empty one":    {[]api.Op{saw("x"), saw("x")}, nil, true},
		"the longest":     {[]api.Op{saw("x", 1, 2), saw("x"), saw("x", 1, 2, 3), saw("x", 1)}, []int{1, 2, 3}, true},
		"middle":          {[]api.Op{saw("x", 1)}, []int{1}, true},
		"of unknown end":  {[]api.Op{saw("x", 5)}, []int{5}, true},
		"twice":           {[]api.Op{saw("x", 3, 3)}, nil, false},
		"garbage":         {[]api.Op{saw("x", 9)}, nil, false},
		"aborted":         {[]api.Op{saw("x", 4)}, nil, false},
		"fork":            {[]api.Op{saw("x", 3), saw("x", 1, 2)}, nil, false},
		"order":           {[]api.Op{saw("x", 2, 1)}, nil, false},
		"of another key":  {[]api.Op{saw("y", 9), saw("x", 3)}, []int{3}, true},
		"without Has":     {[]api.Op{saw("x", 3), {Kind: api.OpRead, Key: "x", List: []int{3, 1}}}, []int{3}, true},
		"its own earlier": {[]api.Op{saw("x"), app("x", 6), app("x", 7), saw("x", 6, 7)}, []int{6, 7}, true},
	} {
		x := table.New(append(slices.Clone(base), ok(c.l...)))
		if l, ok := Trace(x, "x"); !slices.Equal(l, c.trace) || ok != c.ok {
			t.Errorf("%s: %v %v", name, l, ok)
		}
	}
}

// P10.3: the chapter's example.
func TestExample(t *testing.T) {
	x := table.New([]api.Txn{ok(app("x", 1)), ok(app("x", 2)), ok(saw("x", 1, 2)), ok(saw("x", 1)), ok(saw("x"))})
	want := []api.Why{ww(0, 1, 1, 2), wr(1, 2, 2), wr(0, 3, 1), rw(3, 1, 1, 2), rwNil(4, 0, 1)}
	if l := Edges(x, "x"); !slices.Equal(l, want) {
		t.Fatal(l)
	}
}

// P10.3
func TestEdges(t *testing.T) {
	for name, c := range map[string]struct {
		l    []api.Txn
		want []api.Why
	}{
		"no reads":         {[]api.Txn{ok(app("x", 1)), ok(app("x", 2))}, nil},
		"not in the trace": {[]api.Txn{ok(app("x", 1)), ok(app("x", 2)), ok(saw("x", 1))}, []api.Why{wr(0, 2, 1)}},
		"empty reads":      {[]api.Txn{ok(app("x", 1)), ok(saw("x"))}, nil},
		"on itself":        {[]api.Txn{ok(saw("x"), app("x", 1), saw("x", 1), app("x", 2), saw("x", 1, 2))}, nil},
		"none beyond its own": {[]api.Txn{ok(saw("x"), app("x", 1)), ok(app("x", 2)), ok(saw("x", 1, 2))},
			[]api.Why{ww(0, 1, 1, 2), wr(1, 2, 2)}},
		"each once": {[]api.Txn{ok(app("x", 1)), ok(app("x", 2)), ok(saw("x", 1), saw("x", 1, 2), saw("x", 1), saw("x"), saw("x", 1, 2), saw("x"))},
			[]api.Why{ww(0, 1, 1, 2), wr(0, 2, 1), wr(1, 2, 2), rw(2, 1, 1, 2), rwNil(2, 0, 1)}},
		"by their values": {[]api.Txn{ok(app("x", 1), app("x", 2)), ok(app("x", 3)), ok(app("y", 7), app("x", 4)), unknown(app("x", 5)), ok(saw("x", 1), saw("x", 1, 2)), ok(saw("x", 1, 2, 3, 4, 5))},
			[]api.Why{ww(0, 1, 2, 3), ww(1, 2, 3, 4), ww(2, 3, 4, 5), wr(0, 4, 1), wr(0, 4, 2), wr(3, 5, 5), rw(4, 0, 1, 2), rw(4, 1, 2, 3)}},
		"there and back": {[]api.Txn{ok(app("x", 1), app("x", 3)), ok(app("x", 2)), ok(saw("x", 1, 2, 3))},
			[]api.Why{ww(0, 1, 1, 2), ww(1, 0, 2, 3), wr(0, 2, 3)}},
		"zero is a value": {[]api.Txn{ok(app("x", 0)), ok(app("x", 1)), ok(saw("x", 0)), ok(saw("x")), ok(saw("x", 0, 1))},
			[]api.Why{ww(0, 1, 0, 1), wr(0, 2, 0), wr(1, 4, 1), rw(2, 1, 0, 1), rwNil(3, 0, 0)}},
		"by the reader's state": {[]api.Txn{ok(app("x", 1)), failed(saw("x")), unknown(saw("x", 1)), ok(saw("x", 1))}, []api.Why{wr(0, 3, 1)}},
		"an own one, then on": {[]api.Txn{ok(app("x", 1)), ok(saw("x", 1), app("x", 2), saw("x", 1, 2)), ok(app("x", 3)), ok(saw("x", 1, 2, 3))},
			[]api.Why{ww(0, 1, 1, 2), ww(1, 2, 2, 3), wr(0, 1, 1), wr(2, 3, 3), rw(1, 2, 2, 3)}},
		"not trusted": {[]api.Txn{ok(app("x", 1)), ok(app("x", 2)), ok(saw("x", 1)), ok(saw("x", 2))}, nil},
	} {
		if got := Edges(table.New(c.l), "x"); !slices.Equal(got, c.want) {
			t.Errorf("%s:\n%v, not\n%v", name, got, c.want)
		}
	}
}

// Transactions handed in: a register's write to a list's key is a write of the key.
func TestMixed(t *testing.T) {
	x := table.New([]api.Txn{ok(app("x", 1)), failed(put("x", 2)), ok(saw("x", 2)), ok(put("x", 3), app("x", 4)), ok(saw("x", 3))})
	want := []api.Anomaly{one(api.AnAborted, 2, 0, 1, 2), one(api.AnMiddle, 4, 0, 3, 3), one(api.AnFork, 4, 0, 2, 0)}
	if got := Anomalies(x, "x"); !reflect.DeepEqual(got, want) {
		t.Fatal(got)
	}
}

// site is a read, found by its place.
type site struct{ n, i int }

// word is the chapter, word by word.
type word struct {
	l     []api.Txn
	reads []site
}

func say(l []api.Txn) *word {
	w := &word{l: l}
	for n, x := range l {
		for i, o := range x.Ops {
			if x.State == api.TxOk && o.Kind == api.OpRead && o.Has && o.Key == "x" {
				w.reads = append(w.reads, site{n, i})
			}
		}
	}
	return w
}

func (w *word) list(s site) []int { return w.l[s.n].Ops[s.i].List }

// writes tells whether an operation writes the key x, be it as a list or as a register.
func writes(o api.Op) bool {
	return o.Key == "x" && (o.Kind == api.OpAppend || o.Kind == api.OpWrite)
}

func (w *word) writer(v int) (site, bool) {
	for n, x := range w.l {
		for i, o := range x.Ops {
			if writes(o) && o.Value == v {
				return site{n, i}, true
			}
		}
	}
	return site{}, false
}

func (w *word) trace() (site, []int) {
	var at site
	var l []int
	for k, s := range w.reads {
		if k == 0 || len(w.list(s)) > len(l) {
			at, l = s, w.list(s)
		}
	}
	return at, l
}

// ofRead is the anomaly of a kind that a read has; false: none.
func (w *word) ofRead(kind int, s site) (api.Anomaly, bool) {
	l := w.list(s)
	at, trace := w.trace()
	if kind == api.AnFork {
		begins := func(a, b []int) bool { return len(a) <= len(b) && slices.Equal(a, b[:len(a)]) }
		return one(kind, s.n, s.i, at.n, 0), !begins(l, trace) && !begins(trace, l)
	}
	for j, v := range l {
		from, known := w.writer(v)
		switch kind {
		case api.AnTwice:
			if slices.Contains(l[:j], v) {
				return one(kind, s.n, s.i, 0, v), true
			}
		case api.AnGarbage:
			if !known || from.n == s.n && from.i > s.i {
				return one(kind, s.n, s.i, 0, v), true
			}
		case api.AnAborted:
			if known && w.l[from.n].State != api.TxOk && w.l[from.n].State != api.TxInfo {
				return one(kind, s.n, s.i, from.n, v), true
			}
		case api.AnMiddle:
			if j == len(l)-1 && known && from.n != s.n && slices.ContainsFunc(w.l[from.n].Ops[from.i+1:], writes) {
				return one(kind, s.n, s.i, from.n, v), true
			}
		}
	}
	return api.Anomaly{}, false
}

func (w *word) anomalies() (l []api.Anomaly, trusted bool) {
	trusted = true
	for _, kind := range []int{api.AnTwice, api.AnGarbage, api.AnAborted, api.AnMiddle, api.AnFork} {
		for _, s := range w.reads {
			if a, ok := w.ofRead(kind, s); ok {
				l = append(l, a)
				trusted = trusted && kind == api.AnMiddle
			}
		}
	}
	if !trusted {
		return l, false
	}
	_, trace := w.trace()
	for j, v := range trace {
		a, _ := w.writer(v)
		for _, u := range trace[:j] {
			if b, _ := w.writer(u); b.n == a.n && b.i > a.i {
				l, trusted = append(l, one(api.AnOrder, a.n, 0, 0, v)), false
				break
			}
		}
	}
	return l, trusted
}

func (w *word) edges() []api.Why {
	var l []api.Why
	add := func(x api.Why) {
		if x.From != x.To && !slices.Contains(l, x) {
			l = append(l, x)
		}
	}
	_, trace := w.trace()
	from := func(v int) int { s, _ := w.writer(v); return s.n }
	for j := 0; j+1 < len(trace); j++ {
		add(ww(from(trace[j]), from(trace[j+1]), trace[j], trace[j+1]))
	}
	for _, s := range w.reads {
		if r := w.list(s); len(r) > 0 {
			add(wr(from(r[len(r)-1]), s.n, r[len(r)-1]))
		}
	}
	for _, s := range w.reads {
		r := w.list(s)
		if len(r) == len(trace) {
			continue
		}
		next := trace[len(r)]
		if len(r) == 0 {
			add(rwNil(s.n, from(next), next))
		} else {
			add(rw(s.n, from(next), r[len(r)-1], next))
		}
	}
	return l
}

// made is transactions at random, whose reads mostly begin one list.
func made(r *rand.Rand) []api.Txn {
	values := r.Perm(6)
	calm := r.Intn(3) > 0
	var l []api.Txn
	next := 0
	for range 1 + r.Intn(5) {
		x := api.Txn{State: api.TxOk}
		if r.Intn(5) == 0 {
			x.State = []int{api.TxInfo, api.TxInfo, api.TxFail, 0, 9}[r.Intn(5)]
		}
		for range r.Intn(5) {
			key := "x"
			if r.Intn(6) == 0 {
				key = "y"
			}
			switch r.Intn(5) {
			case 0, 1:
				if next < len(values) {
					x.Ops = append(x.Ops, app(key, values[next]))
					next++
				}
			case 4:
				x.Ops = append(x.Ops, api.Op{Kind: r.Intn(7) - 1, Key: key, Value: 10 + r.Intn(90000), List: []int{1}})
			default:
				list := slices.Clone(values[:r.Intn(len(values)+1)])
				if !calm && len(list) > 1 && r.Intn(2) == 0 {
					list[r.Intn(len(list))] = r.Intn(8)
				}
				x.Ops = append(x.Ops, saw(key, list...))
			}
		}
		if calm && r.Intn(4) == 0 {
			slices.Reverse(x.Ops)
		}
		l = append(l, x)
	}
	if calm {
		r.Shuffle(len(l), func(i, j int) { l[i], l[j] = l[j], l[i] })
	}
	return l
}

// P10.1 to P10.4: against the chapter's words.
func TestAtRandom(t *testing.T) {
	r := rand.New(rand.NewSource(10))
	kinds := map[int]int{}
	for range 60000 {
		l := made(r)
		x := table.New(l)
		if x.Kind("x") != api.OpAppend || !x.Unique() {
			continue
		}
		w := say(l)
		want, trusted := w.anomalies()
		if got := Anomalies(x, "x"); !reflect.DeepEqual(got, want) {
			t.Fatalf("%v:\n%v, not\n%v", l, got, want)
		}
		for _, a := range want {
			kinds[a.Kind]++
		}
		_, list := w.trace()
		if !trusted {
			list = nil
		}
		trace, ok := Trace(x, "x")
		if ok != trusted || !slices.Equal(trace, list) {
			t.Fatal(l, trace, ok)
		}
		var edges []api.Why
		if trusted {
			kinds[0]++
			edges = w.edges()
			for _, s := range w.reads {
				if read := w.list(s); !slices.Equal(trace[:len(read)], read) {
					t.Fatal(l, trace, read)
				}
			}
		}
		if got := Edges(x, "x"); !slices.Equal(got, edges) {
			t.Fatalf("%v:\n%v, not\n%v", l, got, edges)
		}
	}
	for _, kind := range []int{0, api.AnTwice, api.AnGarbage, api.AnAborted, api.AnMiddle, api.AnFork, api.AnOrder} {
		if kinds[kind] < 300 {
			t.Error("too few of kind", kind, kinds[kind])
		}
	}
}

// P10.5: a store that does one transaction at a time. What failed was not done; what is of unknown end, perhaps.
func TestOneAtATime(t *testing.T) {
	r := rand.New(rand.NewSource(105))
	edges := 0
	for range 2000 {
		store := map[string][]int{}
		var l []api.Txn
		value := 0
		for range r.Intn(12) {
			x := api.Txn{State: 1 + r.Intn(3)*r.Intn(2)}
			mine := map[string][]int{"x": slices.Clone(store["x"]), "y": slices.Clone(store["y"])}
			for range r.Intn(6) {
				key := []string{"x", "y"}[r.Intn(2)]
				o := api.Op{Kind: api.OpRead, Key: key}
				if r.Intn(2) == 0 {
					value++
					o = app(key, value)
					mine[key] = append(mine[key], value)
				} else if x.State == api.TxOk {
					o = saw(key, slices.Clone(mine[key])...)
				}
				x.Ops = append(x.Ops, o)
			}
			if x.State == api.TxOk || x.State == api.TxInfo && r.Intn(2) == 0 {
				store = mine
			}
			l = append(l, x)
		}
		x := table.New(l)
		for _, key := range x.Keys() {
			if a := Anomalies(x, key); len(a) != 0 {
				t.Fatal(l, a)
			}
			if _, ok := Trace(x, key); !ok {
				t.Fatal(l, key)
			}
			for _, w := range Edges(x, key) {
				edges++
				if w.From >= w.To || w.Key != key || w.Cond {
					t.Fatal(l, w)
				}
			}
		}
	}
	if edges < 5000 {
		t.Fatal("too few", edges)
	}
}

// Memory: a table is as it was, and answers are new.
func TestMemory(t *testing.T) {
	l := []api.Txn{ok(app("x", 1)), ok(app("x", 2)), ok(saw("x", 1, 2)), ok(saw("x", 1)), ok(saw("x", 1, 2)), ok(app("y", 1)), ok(saw("y", 1, 1), saw("y", 7))}
	x := table.New(l)
	trace, _ := Trace(x, "x")
	edges, anomalies := Edges(x, "x"), Anomalies(x, "y")
	again, _ := Trace(x, "x")
	for i := range again[:cap(again)] {
		again[:cap(again)][i] = 99
	}
	e, a := Edges(x, "x"), Anomalies(x, "y")
	clear(e[:cap(e)])
	clear(a[:cap(a)])
	if !slices.Equal(trace, []int{1, 2}) || !slices.Equal(edges, Edges(x, "x")) || len(edges) != 5 || !reflect.DeepEqual(anomalies, Anomalies(x, "y")) || len(anomalies) != 3 {
		t.Fatal(trace, edges, anomalies)
	}
	for n := range l {
		if !reflect.DeepEqual(x.Txn(n), l[n]) {
			t.Fatal(n, x.Txn(n))
		}
	}
}

// Ends: a long transaction, and a long read of it, take no longer than their length.
func TestLong(t *testing.T) {
	var writes []api.Op
	var all []int
	for i := range 50000 {
		writes = append(writes, app("x", i))
		all = append(all, i)
	}
	x := table.New([]api.Txn{ok(writes...), ok(saw("x", all...)), ok(saw("x"))})
	if a := Anomalies(x, "x"); len(a) != 0 {
		t.Fatal(len(a))
	}
	if l := Edges(x, "x"); !slices.Equal(l, []api.Why{wr(0, 1, 49999), rwNil(2, 0, 0)}) {
		t.Fatal(len(l))
	}
}
