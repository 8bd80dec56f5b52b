package regs

import (
	"math"
	"reflect"
	"slices"
	"testing"

	"assayer/api"
	"assayer/table"
)

func put(key string, value int) api.Op { return api.Op{Kind: api.OpWrite, Key: key, Value: value} }
func app(key string, value int) api.Op { return api.Op{Kind: api.OpAppend, Key: key, Value: value} }
func got(key string, value int) api.Op {
	return api.Op{Kind: api.OpGet, Key: key, Value: value, Has: true}
}
func none(key string) api.Op      { return api.Op{Kind: api.OpGet, Key: key, Has: true, Nil: true} }
func ok(l ...api.Op) api.Txn      { return api.Txn{State: api.TxOk, Ops: l} }
func failed(l ...api.Op) api.Txn  { return api.Txn{State: api.TxFail, Ops: l} }
func unknown(l ...api.Op) api.Txn { return api.Txn{State: api.TxInfo, Ops: l} }

func ww(from, to, a, b int) api.Why {
	return api.Why{From: from, To: to, Label: api.LabelWW, Key: "x", A: a, B: b, Cond: true}
}
func wr(from, to, a int) api.Why {
	return api.Why{From: from, To: to, Label: api.LabelWR, Key: "x", A: a}
}
func rw(from, to, a, b int) api.Why {
	return api.Why{From: from, To: to, Label: api.LabelRW, Key: "x", A: a, B: b, Cond: true}
}
func rwNil(from, to, b int) api.Why {
	return api.Why{From: from, To: to, Label: api.LabelRW, Key: "x", B: b, Nil: true}
}

// one is an anomaly of the key x.
func one(kind, txn, op, other, value int) api.Anomaly {
	return api.Anomaly{Kind: kind, Txn: txn, Op: op, Other: other, Key: "x", Value: value}
}

// disorder is the anomaly that has its key alone.
var disorder = api.Anomaly{Kind: api.AnOrder, Key: "x"}

// P12.1: each kind with its fields, and their edges.
func TestAnomalies(t *testing.T) {
	for name, c := range map[string]struct {
		l    []api.Txn
		want []api.Anomaly
	}{
		"nothing got":                   {[]api.Txn{ok(put("x", 1)), ok(put("x", 2))}, nil},
		"nothing wrong":                 {[]api.Txn{ok(put("x", 1)), ok(none("x")), ok(got("x", 1))}, nil},
		"garbage":                       {[]api.Txn{ok(none("y"), got("x", 5))}, []api.Anomaly{one(api.AnGarbage, 0, 1, 0, 5)}},
		"garbage: of another key":       {[]api.Txn{ok(put("y", 5)), ok(got("x", 5))}, []api.Anomaly{one(api.AnGarbage, 1, 0, 0, 5)}},
		"garbage: its own later one":    {[]api.Txn{ok(got("x", 1), put("x", 1))}, []api.Anomaly{one(api.AnGarbage, 0, 0, 0, 1)}},
		"garbage: later, not final":     {[]api.Txn{ok(got("x", 1), put("x", 1), put("x", 2))}, []api.Anomaly{one(api.AnGarbage, 0, 0, 0, 1)}},
		"garbage: not of nothing":       {[]api.Txn{ok(none("x")), ok(api.Op{Kind: api.OpGet, Key: "x", Value: 7, Has: true, Nil: true})}, nil},
		"garbage: zero is a value":      {[]api.Txn{ok(got("x", 0))}, []api.Anomaly{one(api.AnGarbage, 0, 0, 0, 0)}},
		"its own earlier one":           {[]api.Txn{ok(put("x", 1), got("x", 1))}, nil},
		"its own earlier, not final":    {[]api.Txn{ok(put("x", 1), got("x", 1), put("x", 2))}, nil},
		"another's later one":           {[]api.Txn{ok(got("x", 1)), ok(none("y"), none("y"), put("x", 1))}, nil},
		"aborted":                       {[]api.Txn{ok(put("x", 2)), failed(put("x", 1)), ok(got("x", 1))}, []api.Anomaly{one(api.AnAborted, 2, 0, 1, 1)}},
		"aborted: not of unknown end":   {[]api.Txn{unknown(put("x", 1)), ok(got("x", 1))}, nil},
		"aborted: states that are none": {[]api.Txn{{State: 0, Ops: []api.Op{put("x", 1)}}, {State: 4, Ops: []api.Op{put("x", 2)}}, {State: -1, Ops: []api.Op{put("x", 3)}}, ok(got("x", 1), got("x", 2), got("x", 3))}, []api.Anomaly{one(api.AnAborted, 3, 0, 0, 1), one(api.AnAborted, 3, 1, 1, 2), one(api.AnAborted, 3, 2, 2, 3)}},
		"middle":                        {[]api.Txn{ok(none("y")), ok(put("x", 1), put("x", 2)), ok(got("x", 1))}, []api.Anomaly{one(api.AnMiddle, 2, 0, 1, 1)}},
		"middle: of unknown end":        {[]api.Txn{unknown(put("x", 1), put("x", 2)), ok(got("x", 1))}, []api.Anomaly{one(api.AnMiddle, 1, 0, 0, 1)}},
		"middle: the final one is not":  {[]api.Txn{ok(put("x", 1), put("x", 2)), ok(got("x", 2))}, nil},
		"middle: by another key not":    {[]api.Txn{ok(put("x", 1), put("y", 2)), ok(got("x", 1))}, nil},
		"aborted and middle":            {[]api.Txn{failed(put("x", 1), put("x", 2)), ok(got("x", 1))}, []api.Anomaly{one(api.AnAborted, 1, 0, 0, 1), one(api.AnMiddle, 1, 0, 0, 1)}},
		"order":                         {[]api.Txn{ok(got("x", 2), put("x", 1)), ok(got("x", 1), put("x", 2))}, []api.Anomaly{disorder}},
		"order: of three":               {[]api.Txn{ok(got("x", 3), put("x", 1)), ok(got("x", 1), put("x", 2)), ok(got("x", 2), put("x", 3)), ok(put("x", 4))}, []api.Anomaly{disorder}},
		"order: once":                   {[]api.Txn{ok(got("x", 2), put("x", 1)), ok(got("x", 1), put("x", 2)), ok(got("x", 4), put("x", 3)), ok(got("x", 3), put("x", 4))}, []api.Anomaly{disorder}},
		"order: not of two behind one":  {[]api.Txn{ok(put("x", 1)), ok(got("x", 1), put("x", 2)), ok(got("x", 1), put("x", 3))}, nil},
		"order: behind middle":          {[]api.Txn{ok(got("x", 3), put("x", 1), put("x", 2)), ok(got("x", 2), put("x", 3)), ok(got("x", 1))}, []api.Anomaly{one(api.AnMiddle, 2, 0, 0, 1), disorder}},
		"order: not beside garbage":     {[]api.Txn{ok(got("x", 2), put("x", 1)), ok(got("x", 1), put("x", 2)), ok(got("x", 9))}, []api.Anomaly{one(api.AnGarbage, 2, 0, 0, 9)}},
		"order: not beside aborted":     {[]api.Txn{ok(got("x", 2), put("x", 1)), ok(got("x", 1), put("x", 2)), failed(put("x", 3)), ok(got("x", 3))}, []api.Anomaly{one(api.AnAborted, 3, 0, 2, 3)}},
		"order: only by outer gets":     {[]api.Txn{ok(none("x"), got("x", 2), put("x", 1)), ok(got("x", 1), put("x", 2))}, nil},
		"order: only by final writes":   {[]api.Txn{ok(got("x", 2), put("x", 1), put("x", 3)), ok(got("x", 1), put("x", 2))}, []api.Anomaly{one(api.AnMiddle, 1, 0, 0, 1)}},
		"order: only of TxOk":           {[]api.Txn{unknown(got("x", 2), put("x", 1)), ok(got("x", 1), put("x", 2))}, nil},
		"a reader of unknown end":       {[]api.Txn{unknown(got("x", 5)), failed(got("x", 6))}, nil},
		"without Has":                   {[]api.Txn{ok(api.Op{Kind: api.OpGet, Key: "x", Value: 5})}, nil},
		"kinds that are none":           {[]api.Txn{ok(put("x", 1)), ok(api.Op{Kind: 9, Key: "x", Value: 2, Has: true}), ok(got("x", 2))}, []api.Anomaly{one(api.AnGarbage, 2, 0, 0, 2)}},
		"greatest values":               {[]api.Txn{ok(put("x", math.MinInt)), ok(got("x", math.MinInt), got("x", math.MaxInt))}, []api.Anomaly{one(api.AnGarbage, 1, 1, 0, math.MaxInt)}},
	} {
		if l := Anomalies(table.New(c.l), "x"); !reflect.DeepEqual(l, c.want) {
			t.Errorf("%s:\n%v, not\n%v", name, l, c.want)
		}
	}
}

// P12.1: kind by kind, each of them get by get.
func TestAnomaliesInOrder(t *testing.T) {
	l := []api.Txn{
		ok(got("x", 1), got("x", 9), put("x", 3), put("x", 4)),
		failed(put("x", 1), put("x", 2)),
		ok(got("x", 3), got("x", 8), got("x", 2), got("x", 1), got("x", 3)),
	}
	want := []api.Anomaly{
		one(api.AnGarbage, 0, 1, 0, 9), one(api.AnGarbage, 2, 1, 0, 8),
		one(api.AnAborted, 0, 0, 1, 1), one(api.AnAborted, 2, 2, 1, 2), one(api.AnAborted, 2, 3, 1, 1),
		one(api.AnMiddle, 0, 0, 1, 1), one(api.AnMiddle, 2, 0, 0, 3), one(api.AnMiddle, 2, 3, 1, 1), one(api.AnMiddle, 2, 4, 0, 3),
	}
	if got := Anomalies(table.New(l), "x"); !reflect.DeepEqual(got, want) {
		t.Fatalf("%v", got)
	}
}

// P12.1 to P12.3: of other keys, and of a table that is not unique, nothing is told.
func TestNothingTold(t *testing.T) {
	wrong := []api.Op{got("x", 1), app("l", 1), {Kind: api.OpRead, Key: "m", Has: true}, got("m", 5), got("l", 5), {Kind: 9, Key: "n"}}
	unique := table.New([]api.Txn{ok(wrong...)})
	double := table.New([]api.Txn{ok(wrong...), ok(put("x", 1)), ok(put("y", 1)), ok(put("y", 1), got("y", 1))})
	elsewhere := table.New([]api.Txn{ok(put("x", 1)), ok(got("x", 1), put("x", 2)), ok(app("l", 1)), failed(app("l", 1))})
	for _, c := range []struct {
		t    *table.Table
		keys []string
	}{
		{unique, []string{"l", "m", "n", "", "xx"}}, {double, []string{"x", "y", "l"}}, {elsewhere, []string{"x", "l"}},
		{nil, []string{"x", ""}}, {&table.Table{}, []string{"x", ""}}, {table.New(nil), []string{"x", ""}},
	} {
		for _, key := range c.keys {
			values, pairs, ok := Versions(c.t, key)
			if a, e := Anomalies(c.t, key), Edges(c.t, key); len(a) != 0 || len(values) != 0 || len(pairs) != 0 || ok || len(e) != 0 {
				t.Errorf("%q: %v %v %v %v %v", key, a, values, pairs, ok, e)
			}
		}
	}
	if len(Anomalies(unique, "x")) != 1 {
		t.Fatal(Anomalies(unique, "x"))
	}
}

// P12.2
func TestVersions(t *testing.T) {
	for name, c := range map[string]struct {
		l      []api.Txn
		values []int
		pairs  [][2]int
		ok     bool
	}{
		"no writes":               {[]api.Txn{ok(none("x"))}, nil, nil, true},
		"without Has":             {[]api.Txn{ok(api.Op{Kind: api.OpGet, Key: "x", Value: 3})}, nil, nil, true},
		"rising":                  {[]api.Txn{ok(put("x", 3)), ok(put("x", -1)), ok(put("x", 0))}, []int{-1, 0, 3}, [][2]int{{0, 1}, {0, 2}, {0, 3}}, true},
		"only final ones":         {[]api.Txn{ok(put("x", 1), put("x", 2))}, []int{2}, [][2]int{{0, 1}}, true},
		"only of TxOk":            {[]api.Txn{ok(none("x")), unknown(put("x", 1)), failed(put("x", 2)), {Ops: []api.Op{put("x", 3)}}}, nil, nil, true},
		"got, of unknown end":     {[]api.Txn{unknown(put("x", 1)), ok(got("x", 1)), ok(got("x", 1))}, []int{1}, [][2]int{{0, 1}}, true},
		"got, another's middle":   {[]api.Txn{ok(put("x", 1), put("x", 2)), ok(got("x", 1))}, []int{1, 2}, [][2]int{{0, 1}, {0, 2}}, true},
		"got, its own middle":     {[]api.Txn{ok(put("x", 1), got("x", 1), put("x", 2))}, []int{2}, [][2]int{{0, 1}}, true},
		"got by both":             {[]api.Txn{ok(put("x", 1), got("x", 1), put("x", 2)), ok(got("x", 1))}, []int{1, 2}, [][2]int{{0, 1}, {0, 2}}, true},
		"got, but not outer":      {[]api.Txn{unknown(put("x", 1)), ok(none("x"), got("x", 1))}, []int{1}, [][2]int{{0, 1}}, true},
		"by another's end":        {[]api.Txn{unknown(put("x", 1)), unknown(got("x", 1)), ok(none("x"))}, nil, nil, true},
		"one ahead":               {[]api.Txn{ok(put("x", 2)), ok(got("x", 2), put("x", 1))}, []int{1, 2}, [][2]int{{0, 1}, {0, 2}, {2, 1}}, true},
		"what follows":            {[]api.Txn{ok(got("x", 2), put("x", 3)), ok(got("x", 1), put("x", 2)), ok(put("x", 1))}, []int{1, 2, 3}, [][2]int{{0, 1}, {0, 2}, {0, 3}, {1, 2}, {1, 3}, {2, 3}}, true},
		"ahead of the final one":  {[]api.Txn{ok(put("x", 1)), ok(got("x", 1), put("x", 3), put("x", 2))}, []int{1, 2}, [][2]int{{0, 1}, {0, 2}, {1, 2}}, true},
		"by the outer get":        {[]api.Txn{ok(put("x", 1)), ok(put("x", 2)), ok(got("x", 1), got("x", 2), put("x", 3))}, []int{1, 2, 3}, [][2]int{{0, 1}, {0, 2}, {0, 3}, {1, 3}}, true},
		"a get behind its write":  {[]api.Txn{ok(put("x", 1)), ok(put("x", 2), got("x", 1))}, []int{1, 2}, [][2]int{{0, 1}, {0, 2}}, true},
		"not of unknown end":      {[]api.Txn{ok(put("x", 1)), unknown(got("x", 1), put("x", 2)), ok(got("x", 2))}, []int{1, 2}, [][2]int{{0, 1}, {0, 2}}, true},
		"of another key":          {[]api.Txn{ok(put("x", 1)), ok(got("y", 1), put("x", 2)), ok(got("x", 1), put("y", 1))}, []int{1, 2}, [][2]int{{0, 1}, {0, 2}}, true},
		"garbage":                 {[]api.Txn{ok(put("x", 1)), ok(got("x", 2))}, nil, nil, false},
		"aborted":                 {[]api.Txn{failed(put("x", 1)), ok(got("x", 1))}, nil, nil, false},
		"order":                   {[]api.Txn{ok(got("x", 2), put("x", 1)), ok(got("x", 1), put("x", 2))}, nil, nil, false},
		"greatest values":         {[]api.Txn{ok(put("x", math.MaxInt)), ok(got("x", math.MaxInt), put("x", math.MinInt))}, []int{math.MinInt, math.MaxInt}, [][2]int{{0, 1}, {0, 2}, {2, 1}}, true},
		"garbage of another key":  {[]api.Txn{ok(put("x", 1)), ok(got("y", 2))}, []int{1}, [][2]int{{0, 1}}, true},
		"value 0, not the number": {[]api.Txn{ok(put("x", 0)), ok(got("x", 0), put("x", -5))}, []int{-5, 0}, [][2]int{{0, 1}, {0, 2}, {2, 1}}, true},
	} {
		values, pairs, ok := Versions(table.New(c.l), "x")
		if ok != c.ok || !slices.Equal(values, c.values) || !slices.Equal(pairs, c.pairs) {
			t.Errorf("%s: %v %v %v", name, values, pairs, ok)
		}
	}
}

// P12.3: the chapter's example, with its get of nothing.
func TestExample(t *testing.T) {
	x := table.New([]api.Txn{ok(put("x", 1)), ok(got("x", 1), put("x", 2)), ok(none("x"))})
	want := []api.Why{ww(0, 1, 1, 2), wr(0, 1, 1), rwNil(2, 0, 1), rwNil(2, 1, 2)}
	if l := Edges(x, "x"); !slices.Equal(l, want) {
		t.Fatal(l)
	}
}

// P12.3
func TestEdges(t *testing.T) {
	for name, c := range map[string]struct {
		l    []api.Txn
		want []api.Why
	}{
		"nothing got":      {[]api.Txn{ok(put("x", 1)), ok(put("x", 2))}, nil},
		"on itself":        {[]api.Txn{ok(none("x"), put("x", 1), got("x", 1), put("x", 2), got("x", 2))}, nil},
		"the last one got": {[]api.Txn{ok(put("x", 1)), ok(got("x", 1))}, []api.Why{wr(0, 1, 1)}},
		"a get of nothing and a write": {[]api.Txn{ok(none("x"), put("x", 1)), ok(put("x", 2))},
			[]api.Why{rwNil(0, 1, 2)}},
		"by their numbers": {[]api.Txn{ok(put("x", 3)), ok(got("x", 3), put("x", 1)), ok(got("x", 1), put("x", 2)), ok(got("x", 3))},
			[]api.Why{ww(1, 2, 1, 2), ww(0, 1, 3, 1), ww(0, 2, 3, 2), wr(0, 1, 3), wr(1, 2, 1), wr(0, 3, 3), rw(1, 2, 3, 2), rw(3, 1, 3, 1), rw(3, 2, 3, 2)}},
		"only outer gets": {[]api.Txn{ok(put("x", 1)), ok(got("x", 1), put("x", 2)), ok(none("x"), got("x", 1)), ok(put("x", 3), got("x", 1))},
			[]api.Why{ww(0, 1, 1, 2), wr(0, 1, 1), rwNil(2, 0, 1), rwNil(2, 1, 2), rwNil(2, 3, 3)}},
		"of unknown end": {[]api.Txn{unknown(put("x", 1)), ok(got("x", 1), put("x", 2)), unknown(got("x", 1)), ok(got("x", 2))},
			[]api.Why{ww(0, 1, 1, 2), wr(0, 1, 1), wr(1, 3, 2)}},
		"middle": {[]api.Txn{ok(put("x", 1), put("x", 2)), ok(got("x", 1), put("x", 3)), ok(none("x"))},
			[]api.Why{ww(0, 1, 1, 3), wr(0, 1, 1), rwNil(2, 0, 1), rwNil(2, 0, 2), rwNil(2, 1, 3)}},
		"zero is a value": {[]api.Txn{ok(put("x", 0)), ok(got("x", 0), put("x", 1)), ok(got("x", 0)), ok(none("x"))},
			[]api.Why{ww(0, 1, 0, 1), wr(0, 1, 0), wr(0, 2, 0), rw(2, 1, 0, 1), rwNil(3, 0, 0), rwNil(3, 1, 1)}},
		"nothing, with a value behind it": {[]api.Txn{ok(put("x", 4)), ok(api.Op{Kind: api.OpGet, Key: "x", Value: 4, Has: true, Nil: true})},
			[]api.Why{rwNil(1, 0, 4)}},
		"lost writes": {[]api.Txn{ok(put("x", 1)), ok(got("x", 1), put("x", 2)), ok(got("x", 1), put("x", 3))},
			[]api.Why{ww(0, 1, 1, 2), ww(0, 2, 1, 3), wr(0, 1, 1), wr(0, 2, 1), rw(1, 2, 1, 3), rw(2, 1, 1, 2)}},
		"order":   {[]api.Txn{ok(got("x", 2), put("x", 1)), ok(got("x", 1), put("x", 2)), ok(none("x"))}, nil},
		"garbage": {[]api.Txn{ok(put("x", 1)), ok(got("x", 1)), ok(got("x", 2))}, nil},
		"aborted": {[]api.Txn{ok(put("x", 1)), ok(got("x", 1)), failed(put("x", 2)), ok(got("x", 2))}, nil},
	} {
		if l := Edges(table.New(c.l), "x"); !slices.Equal(l, c.want) {
			t.Errorf("%s:\n%v, not\n%v", name, l, c.want)
		}
	}
}

// Transactions handed in: an append to a register's key is a write of the key, and a get behind it is still an outer one.
func TestMixed(t *testing.T) {
	for name, c := range map[string]struct {
		l         []api.Txn
		anomalies []api.Anomaly
		values    []int
		edges     []api.Why
	}{
		"aborted": {[]api.Txn{ok(put("x", 1)), failed(app("x", 2)), ok(got("x", 2))}, []api.Anomaly{one(api.AnAborted, 2, 0, 1, 2)}, nil, nil},
		"middle":  {[]api.Txn{ok(put("x", 1), app("x", 2)), ok(got("x", 1))}, []api.Anomaly{one(api.AnMiddle, 1, 0, 0, 1)}, []int{1, 2}, []api.Why{wr(0, 1, 1)}},
		"garbage": {[]api.Txn{ok(put("x", 1)), ok(got("x", 2), app("x", 2))}, []api.Anomaly{one(api.AnGarbage, 1, 0, 0, 2)}, nil, nil},
		"final":   {[]api.Txn{ok(put("x", 1)), ok(got("x", 1), put("x", 3), app("x", 2))}, nil, []int{1, 2}, []api.Why{ww(0, 1, 1, 2), wr(0, 1, 1)}},
		"both are one version": {[]api.Txn{ok(put("x", 1)), ok(app("x", 2), got("x", 2)), ok(none("x"))}, nil, []int{1, 2},
			[]api.Why{rwNil(2, 0, 1), rwNil(2, 1, 2)}},
		"a get of no version": {[]api.Txn{ok(put("x", 1)), ok(app("x", 2), got("x", 2), put("x", 3)), ok(none("x"))}, nil, []int{1, 3},
			[]api.Why{rwNil(2, 0, 1), rwNil(2, 1, 3)}},
		"reads of a list": {[]api.Txn{ok(put("x", 1)), ok(api.Op{Kind: api.OpRead, Key: "x", Has: true, List: []int{5, 5}}, got("x", 1))}, nil, []int{1}, []api.Why{wr(0, 1, 1)}},
	} {
		x := table.New(c.l)
		values, _, _ := Versions(x, "x")
		if a, e := Anomalies(x, "x"), Edges(x, "x"); !reflect.DeepEqual(a, c.anomalies) || !slices.Equal(values, c.values) || !slices.Equal(e, c.edges) {
			t.Errorf("%s: %v %v %v", name, a, values, e)
		}
	}
}

// chain is a register that is written n times, each time by a transaction that got the value ahead, and then got once.
func chain(n int) []api.Txn {
	l := []api.Txn{ok(none("x"), put("x", 0))}
	for v := 1; v < n; v++ {
		l = append(l, ok(got("x", v-1), put("x", v)))
	}
	return append(l, ok(got("x", n-1)))
}

// P12.1 to P12.3: the most versions of which something is told, and one more.
func TestMaxNodes(t *testing.T) {
	const most = api.MaxNodes - 1
	x := table.New(chain(most))
	values, pairs, known := Versions(x, "x")
	if !known || len(values) != most || values[0] != 0 || values[most-1] != most-1 || len(pairs) != most*(most+1)/2 {
		t.Fatal(len(values), len(pairs), known)
	}
	// Of each ahead of each later one; of each get; of each get each later one but the one that it is beside.
	if l := Edges(x, "x"); len(l) != most*(most-1)/2+most+most*(most-1)/2 {
		t.Fatal(len(l))
	}
	round := chain(most)
	round[0] = ok(got("x", most-1), put("x", 0))
	if l := Anomalies(table.New(round), "x"); !reflect.DeepEqual(l, []api.Anomaly{disorder}) {
		t.Fatal(l)
	}
	many := chain(most + 1)
	many[0] = ok(got("x", most), put("x", -1), put("x", 0))
	many = append(many, ok(none("y"), got("x", 0)))
	for _, wrong := range [][]api.Anomaly{nil, {one(api.AnMiddle, len(many), 0, 0, -1)}} {
		if wrong != nil {
			many = append(many, ok(got("x", -1)))
		}
		x := table.New(many)
		values, pairs, known := Versions(x, "x")
		if a, e := Anomalies(x, "x"), Edges(x, "x"); known || len(values) != 0 || len(pairs) != 0 || len(e) != 0 || !reflect.DeepEqual(a, wrong) {
			t.Fatal(len(values), len(pairs), known, len(e), a)
		}
	}
}

// Memory: a table is as it was, and answers are new.
func TestMemory(t *testing.T) {
	l := []api.Txn{ok(put("x", 1)), ok(got("x", 1), put("x", 2)), ok(none("x")), ok(put("y", 1)), ok(got("y", 7), got("y", 8))}
	x := table.New(l)
	values, pairs, _ := Versions(x, "x")
	edges, anomalies := Edges(x, "x"), Anomalies(x, "y")
	v, p, _ := Versions(x, "x")
	clear(v[:cap(v)])
	clear(p[:cap(p)])
	e, a := Edges(x, "x"), Anomalies(x, "y")
	clear(e[:cap(e)])
	clear(a[:cap(a)])
	v, p, _ = Versions(x, "x")
	if !slices.Equal(values, []int{1, 2}) || !slices.Equal(v, values) || len(pairs) != 3 || !slices.Equal(p, pairs) {
		t.Fatal(values, v, pairs, p)
	}
	if len(edges) != 4 || !slices.Equal(edges, Edges(x, "x")) || len(anomalies) != 2 || !reflect.DeepEqual(anomalies, Anomalies(x, "y")) {
		t.Fatal(edges, anomalies)
	}
	for n := range l {
		if !reflect.DeepEqual(x.Txn(n), l[n]) {
			t.Fatal(n, x.Txn(n))
		}
	}
}

// Ends: a long transaction, and many gets of what it wrote, take no longer than their length.
func TestLong(t *testing.T) {
	var writes, gets []api.Op
	l := []api.Txn{{}, {}}
	for v := range 50000 {
		writes = append(writes, put("x", v))
		gets = append(gets, got("x", 49999))
		l = append(l, ok(got("x", 49999)))
	}
	l[0], l[1] = ok(writes...), ok(gets...)
	x := table.New(l)
	if a := Anomalies(x, "x"); len(a) != 0 {
		t.Fatal(len(a))
	}
	if e := Edges(x, "x"); len(e) != 50001 || e[0] != wr(0, 1, 49999) || e[50000] != wr(0, 50001, 49999) {
		t.Fatal(len(e))
	}
	l[1] = ok(writes[:49999]...)
	l[0] = failed(put("x", 49999))
	for v := range 49999 {
		l[2+v] = ok(got("x", v))
	}
	x = table.New(l[:50001])
	if a := Anomalies(x, "x"); len(a) != 49998 || !reflect.DeepEqual(a[49997], one(api.AnMiddle, 49999, 0, 1, 49997)) {
		t.Fatal(len(a))
	}
}
