package report

import (
	"math"
	"slices"
	"strings"
	"testing"

	"assayer/api"
)

const ordinaryText = `txns 300
unique yes
anomaly internal 3 1 0 ( ) 0 plain pl1
anomaly garbage 1 0 0 ( x ) -5 plain pl1
anomaly twice 1 2 0 ( abc123 ) 9223372036854775807 plain none
anomaly fork 1 0 2 ( y ) -9223372036854775808 plain pl1
anomaly aborted 0 7 9 ( nil ) 1 plain pl2
anomaly middle -1 -2 -3 ( real ) 4 plain pl2
anomaly order 0 0 0 ( z9 ) 0 plain pl3
anomaly g0 0 0 0 ( ) 0 real strict [ 0 ww 1 ( x ) 1 2 value sure ] [ 1 rt 0 ( ) 0 0 value sure ]
anomaly g1c 0 0 0 ( ) 0 plain pl2 [ 5 wr 6 ( p ) -7 0 value cond ] [ 6 ww 5 ( p ) 8 9 nil cond ]
anomaly single 0 0 0 ( ) 0 plain pl2plus [ -9223372036854775808 rw 9223372036854775807 ( abcdef ) 0 -1 nil sure ]
anomaly g2 0 0 0 ( ) 0 plain pl3
level pl1
answer yes ( 2 0 -1 299 )
`

func ordinaryReport() api.Report {
	return api.Report{Txns: 300, Unique: true, Level: api.LevelPL1, Answer: api.AnswerYes, Order: []int{2, 0, -1, 299}, Anomalies: []api.Anomaly{
		{Kind: api.AnInternal, Txn: 3, Op: 1, Level: api.LevelPL1},
		{Kind: api.AnGarbage, Txn: 1, Key: "x", Value: -5, Level: api.LevelPL1},
		{Kind: api.AnTwice, Txn: 1, Op: 2, Key: "abc123", Value: math.MaxInt64},
		{Kind: api.AnFork, Txn: 1, Other: 2, Key: "y", Value: math.MinInt64, Level: api.LevelPL1},
		{Kind: api.AnAborted, Op: 7, Other: 9, Key: "nil", Value: 1, Level: api.LevelPL2},
		{Kind: api.AnMiddle, Txn: -1, Op: -2, Other: -3, Key: "real", Value: 4, Level: api.LevelPL2},
		{Kind: api.AnOrder, Key: "z9", Level: api.LevelPL3},
		{Kind: api.AnG0, Real: true, Level: api.LevelStrict, Cycle: []api.Why{
			{From: 0, To: 1, Label: api.LabelWW, Key: "x", A: 1, B: 2},
			{From: 1, To: 0, Label: api.LabelRT},
		}},
		{Kind: api.AnG1c, Level: api.LevelPL2, Cycle: []api.Why{
			{From: 5, To: 6, Label: api.LabelWR, Key: "p", A: -7, Cond: true},
			{From: 6, To: 5, Label: api.LabelWW, Key: "p", A: 8, B: 9, Nil: true, Cond: true},
		}},
		{Kind: api.AnSingle, Level: api.LevelPL2P, Cycle: []api.Why{
			{From: math.MinInt64, To: math.MaxInt64, Label: api.LabelRW, Key: "abcdef", B: -1, Nil: true},
		}},
		{Kind: api.AnG2, Level: api.LevelPL3},
	}}
}

// printed is the text of a report that may be.
func printed(t *testing.T, r api.Report) string {
	t.Helper()
	s, e := Print(r)
	if e != api.OK {
		t.Fatalf("%v: %v", r, e)
	}
	return s
}

func withAnomaly(a api.Anomaly) api.Report { return api.Report{Anomalies: []api.Anomaly{a}} }

func withDependency(w api.Why) api.Report {
	return withAnomaly(api.Anomaly{Kind: api.AnG2, Cycle: []api.Why{w}})
}

// fork and link are an anomaly and a dependency that may be.
func fork() api.Anomaly { return api.Anomaly{Kind: api.AnFork, Key: "x", Level: api.LevelPL1} }
func link() api.Why     { return api.Why{Label: api.LabelWW, Key: "x"} }

// rightReports is reports at the edges of what may be.
func rightReports() []api.Report {
	out := []api.Report{
		{},
		{Anomalies: []api.Anomaly{}, Order: []int{}},
		ordinaryReport(),
		{Txns: api.MaxNodes},
		{Unique: true},
		{Anomalies: slices.Repeat([]api.Anomaly{fork()}, 1000)},
		{Answer: api.AnswerYes},
		{Answer: api.AnswerYes, Order: make([]int, api.MaxNodes)},
		{Answer: api.AnswerYes, Order: []int{math.MinInt, math.MaxInt, -1, 5, 5}},
		{Answer: api.AnswerNo, Order: []int{}},
		withAnomaly(api.Anomaly{Kind: api.AnFork, Cycle: slices.Repeat([]api.Why{link()}, api.MaxNodes)}),
		withAnomaly(api.Anomaly{Kind: api.AnG0, Txn: math.MinInt, Op: math.MaxInt, Other: math.MinInt, Value: math.MaxInt, Cycle: []api.Why{}}),
		withDependency(api.Why{Label: api.LabelRT, From: math.MinInt, To: math.MaxInt, A: math.MaxInt, B: math.MinInt, Nil: true, Cond: true}),
	}
	for level := api.LevelNone; level <= api.LevelStrict; level++ {
		out = append(out, api.Report{Level: level}, withAnomaly(api.Anomaly{Kind: api.AnInternal, Level: level}))
	}
	for answer := 0; answer <= api.AnswerUnknown; answer++ {
		out = append(out, api.Report{Answer: answer})
	}
	for kind := api.AnInternal; kind <= api.AnG2; kind++ {
		out = append(out, withAnomaly(api.Anomaly{Kind: kind}), withAnomaly(api.Anomaly{Kind: kind, Real: true}))
	}
	for _, label := range []int{api.LabelWW, api.LabelWR, api.LabelRW, api.LabelRT} {
		out = append(out, withDependency(api.Why{Label: label}))
	}
	for _, key := range []string{"", "x", "nil", "real", "abcdef", "a99999"} {
		out = append(out, withAnomaly(api.Anomaly{Kind: api.AnFork, Key: key}), withDependency(api.Why{Label: api.LabelWW, Key: key}))
	}
	return out
}

// brokenReports is reports that may not be, each for one reason.
func brokenReports() []api.Report {
	var out []api.Report
	for _, n := range []int{math.MinInt, -1, api.MaxNodes + 1, math.MaxInt} {
		out = append(out, api.Report{Txns: n})
	}
	for _, n := range []int{math.MinInt, -1, 6, math.MaxInt} {
		out = append(out, api.Report{Level: n}, withAnomaly(api.Anomaly{Kind: api.AnFork, Level: n}))
	}
	for _, n := range []int{math.MinInt, -1, 4, math.MaxInt} {
		out = append(out, api.Report{Answer: n})
	}
	for _, n := range []int{0, api.AnswerNo, api.AnswerUnknown, -1, 4} {
		out = append(out, api.Report{Answer: n, Order: []int{0}})
	}
	for _, n := range []int{math.MinInt, -1, 0, 12, math.MaxInt} {
		out = append(out, withAnomaly(api.Anomaly{Kind: n}))
	}
	for _, n := range []int{math.MinInt, -8, -1, 0, 3, 5, 6, 7, 9, 12, 15, 16, math.MaxInt} {
		out = append(out, withDependency(api.Why{Label: n}))
	}
	for _, key := range []string{"X", "1", "1a", "-1", "a b", " a", "a ", "a\n", "\n", " ", "(", "]", "a_b", "é", "\x00", "abcdefg", strings.Repeat("a", api.MaxText+1)} {
		out = append(out, withAnomaly(api.Anomaly{Kind: api.AnFork, Key: key}), withDependency(api.Why{Label: api.LabelWW, Key: key}))
	}
	return append(out,
		api.Report{Answer: api.AnswerYes, Order: make([]int, api.MaxNodes+1)},
		api.Report{Anomalies: slices.Repeat([]api.Anomaly{fork()}, 1001)},
		api.Report{Anomalies: append(slices.Repeat([]api.Anomaly{fork()}, 999), api.Anomaly{})},
		withAnomaly(api.Anomaly{Kind: api.AnFork, Cycle: slices.Repeat([]api.Why{link()}, api.MaxNodes+1)}),
		withAnomaly(api.Anomaly{Kind: api.AnFork, Cycle: append(slices.Repeat([]api.Why{link()}, api.MaxNodes-1), api.Why{})}),
	)
}

// P21.1
func TestCan(t *testing.T) {
	for _, r := range rightReports() {
		if !Can(r) {
			t.Errorf("may not be: %v", r)
		}
	}
	for n, r := range brokenReports() {
		if Can(r) {
			t.Errorf("may be: %d, %v", n, r)
		}
	}
}

// P21.1
func TestPrint(t *testing.T) {
	dependencies := " [ 0 ww 0 ( x ) 0 0 value sure ]"
	for _, x := range []struct {
		r    api.Report
		want string
	}{
		{api.Report{}, "txns 0\nunique no\nlevel none\nanswer none\n"},
		{api.Report{Unique: true, Anomalies: []api.Anomaly{}, Order: []int{}}, "txns 0\nunique yes\nlevel none\nanswer none\n"},
		{api.Report{Txns: 7, Level: api.LevelStrict, Answer: api.AnswerNo}, "txns 7\nunique no\nlevel strict\nanswer no\n"},
		{api.Report{Level: api.LevelPL2P, Answer: api.AnswerUnknown}, "txns 0\nunique no\nlevel pl2plus\nanswer unknown\n"},
		{api.Report{Level: api.LevelPL2, Answer: api.AnswerYes}, "txns 0\nunique no\nlevel pl2\nanswer yes ( )\n"},
		{api.Report{Level: api.LevelPL3, Answer: api.AnswerYes, Order: []int{0}}, "txns 0\nunique no\nlevel pl3\nanswer yes ( 0 )\n"},
		{withAnomaly(api.Anomaly{Kind: api.AnFork, Cycle: slices.Repeat([]api.Why{link()}, api.MaxNodes)}), "txns 0\nunique no\nanomaly fork 0 0 0 ( ) 0 plain none" + strings.Repeat(dependencies, api.MaxNodes) + "\nlevel none\nanswer none\n"},
		{api.Report{Anomalies: slices.Repeat([]api.Anomaly{fork()}, 1000)}, "txns 0\nunique no\n" + strings.Repeat("anomaly fork 0 0 0 ( x ) 0 plain pl1\n", 1000) + "level none\nanswer none\n"},
		{ordinaryReport(), ordinaryText},
	} {
		if s := printed(t, x.r); s != x.want {
			t.Errorf("%q, want %q", s, x.want)
		}
	}
}

// P21.1
func TestPrintRefuses(t *testing.T) {
	for n, r := range brokenReports() {
		if s, e := Print(r); s != "" || e != api.ErrArg {
			t.Errorf("%d: %q %v", n, s, e)
		}
	}
	for n, r := range rightReports() {
		if s, e := Print(r); s == "" || e != api.OK {
			t.Errorf("%d: %q %v", n, s, e)
		}
	}
}

// P21.1
func TestSame(t *testing.T) {
	if !Same(api.Report{}, api.Report{Anomalies: []api.Anomaly{}, Order: []int{}}) || !Same(withAnomaly(api.Anomaly{}), withAnomaly(api.Anomaly{Cycle: []api.Why{}})) {
		t.Error("nil and empty lists")
	}
	for n, r := range slices.Concat(rightReports(), brokenReports()) {
		if !Same(r, r) {
			t.Error("itself", n)
		}
	}
	if !Same(ordinaryReport(), ordinaryReport()) {
		t.Error("the same ones")
	}
	for n, change := range []func(r *api.Report){
		func(r *api.Report) { r.Txns-- },
		func(r *api.Report) { r.Unique = false },
		func(r *api.Report) { r.Level = api.LevelNone },
		func(r *api.Report) { r.Answer = api.AnswerNo },
		func(r *api.Report) { r.Order[3] = 298 },
		func(r *api.Report) { r.Order = r.Order[:3] },
		func(r *api.Report) { r.Order = append(r.Order, 0) },
		func(r *api.Report) { r.Order = nil },
		func(r *api.Report) { slices.Reverse(r.Order) },
		func(r *api.Report) { r.Anomalies = nil },
		func(r *api.Report) { r.Anomalies = r.Anomalies[:10] },
		func(r *api.Report) { r.Anomalies = append(r.Anomalies, fork()) },
		func(r *api.Report) { r.Anomalies[2], r.Anomalies[3] = r.Anomalies[3], r.Anomalies[2] },
		func(r *api.Report) { r.Anomalies[8].Kind = api.AnG2 },
		func(r *api.Report) { r.Anomalies[8].Txn++ },
		func(r *api.Report) { r.Anomalies[8].Op++ },
		func(r *api.Report) { r.Anomalies[8].Other++ },
		func(r *api.Report) { r.Anomalies[8].Key = "x" },
		func(r *api.Report) { r.Anomalies[8].Value++ },
		func(r *api.Report) { r.Anomalies[8].Real = true },
		func(r *api.Report) { r.Anomalies[8].Level = api.LevelPL3 },
		func(r *api.Report) { r.Anomalies[8].Cycle = nil },
		func(r *api.Report) { r.Anomalies[8].Cycle = r.Anomalies[8].Cycle[:1] },
		func(r *api.Report) { slices.Reverse(r.Anomalies[8].Cycle) },
		func(r *api.Report) { r.Anomalies[8].Cycle[1].From++ },
		func(r *api.Report) { r.Anomalies[8].Cycle[1].To++ },
		func(r *api.Report) { r.Anomalies[8].Cycle[1].Label = api.LabelRT },
		func(r *api.Report) { r.Anomalies[8].Cycle[1].Key = "" },
		func(r *api.Report) { r.Anomalies[8].Cycle[1].A++ },
		func(r *api.Report) { r.Anomalies[8].Cycle[1].B++ },
		func(r *api.Report) { r.Anomalies[8].Cycle[1].Nil = false },
		func(r *api.Report) { r.Anomalies[8].Cycle[1].Cond = false },
	} {
		r := ordinaryReport()
		change(&r)
		if Same(r, ordinaryReport()) || Same(ordinaryReport(), r) {
			t.Error("change", n)
		}
	}
}

// What is handed in stays as it is, the room behind each list's end too.
func TestChangesNothing(t *testing.T) {
	whole := ordinaryReport()
	part := whole
	part.Order = whole.Order[:2]
	part.Anomalies = slices.Clone(whole.Anomalies)[:9]
	part.Anomalies[8].Cycle = whole.Anomalies[8].Cycle[:1]
	printed(t, part)
	Can(part)
	Same(part, whole)
	Same(whole, part)
	part.Answer = api.AnswerNo
	if _, e := Print(part); e != api.ErrArg {
		t.Error(e)
	}
	if rest := part.Anomalies[9:11]; !Same(whole, ordinaryReport()) || !Same(api.Report{Anomalies: rest}, api.Report{Anomalies: whole.Anomalies[9:]}) {
		t.Error("an argument was changed")
	}
}
