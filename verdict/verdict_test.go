package verdict

import (
	"errors"
	"reflect"
	"slices"
	"strings"
	"testing"

	"assayer/api"
	"assayer/histtext"
)

func ww(from, to int, key string, a, b int) api.Why {
	return api.Why{From: from, To: to, Label: api.LabelWW, Key: key, A: a, B: b}
}
func wr(from, to int, key string, a int) api.Why {
	return api.Why{From: from, To: to, Label: api.LabelWR, Key: key, A: a}
}
func rw(from, to int, key string, a, b int) api.Why {
	return api.Why{From: from, To: to, Label: api.LabelRW, Key: key, A: a, B: b}
}
func first(from, to int, key string, b int) api.Why {
	return api.Why{From: from, To: to, Label: api.LabelRW, Key: key, B: b, Nil: true}
}
func rt(from, to int) api.Why { return api.Why{From: from, To: to, Label: api.LabelRT} }
func maybe(w api.Why) api.Why {
	w.Cond = true
	return w
}
func cycle(kind, level int, real bool, l ...api.Why) api.Anomaly {
	return api.Anomaly{Kind: kind, Level: level, Real: real, Cycle: l}
}

// events is those of a text.
func events(t *testing.T, text string) []api.Event {
	t.Helper()
	l, err := histtext.Parse(text)
	if err != nil {
		t.Fatal(text, err)
	}
	return l
}

// done is a history of transactions that are all at once, or one behind the other: each its operations, what they read said in the end alone. A - ahead of them: it fails; a ?: nobody is told.
func done(t *testing.T, once bool, txns ...string) []api.Event {
	t.Helper()
	var l, ends []api.Event
	for i, text := range txns {
		kind := api.EvOk
		switch text[0] {
		case '-':
			kind, text = api.EvFail, text[1:]
		case '?':
			kind, text = api.EvInfo, text[1:]
		}
		x := events(t, "ok "+string(rune('0'+i))+text)[0]
		asked := slices.Clone(x.Ops)
		for k, o := range asked {
			if o.Has {
				asked[k] = api.Op{Kind: o.Kind, Key: o.Key}
			}
		}
		begin, end := api.Event{Kind: api.EvInvoke, Proc: i, Ops: asked}, api.Event{Kind: kind, Proc: i, Ops: x.Ops}
		if kind != api.EvOk {
			end.Ops = asked
		}
		l = append(l, begin)
		if once {
			ends = append(ends, end)
		} else {
			l = append(l, end)
		}
	}
	return append(l, ends...)
}

// same tells whether two reports are, nil and empty lists being one.
func same(a, b api.Report) bool {
	a.Order, b.Order = append([]int{}, a.Order...), append([]int{}, b.Order...)
	return sameAll(a.Anomalies, b.Anomalies) && reflect.DeepEqual(clean(a), clean(b))
}

func clean(r api.Report) api.Report {
	r.Anomalies = nil
	return r
}

// sameAll tells whether two lists of anomalies are, nil and empty lists being one.
func sameAll(a, b []api.Anomaly) bool {
	return slices.EqualFunc(a, b, func(x, y api.Anomaly) bool {
		x.Cycle, y.Cycle = append([]api.Why{}, x.Cycle...), append([]api.Why{}, y.Cycle...)
		return reflect.DeepEqual(x, y)
	})
}

// The document's examples of the whole, but for the last one, and others: P20.1 and P20.2.
func TestJudge(t *testing.T) {
	skew := []string{"[append x 1] [read y ()]", "[append y 2] [read x ()]", "[read x (1)] [read y (2)]"}
	late := []string{"[append x 1]", "[read x ()]", "[read x (1)]"}
	plain, real := api.Options{Search: true, Steps: 1000}, api.Options{Real: true, Search: true, Steps: 1000}
	for name, c := range map[string]struct {
		l    []api.Event
		o    api.Options
		want api.Report
	}{
		"1: a fork": {done(t, true, "[append x 1] [read x (1)]", "[append x 2] [read x (2)]"), real,
			api.Report{Txns: 2, Unique: true, Anomalies: []api.Anomaly{{Kind: api.AnFork, Txn: 1, Op: 1, Key: "x", Level: api.LevelPL1}}, Level: api.LevelPL1, Answer: api.AnswerNo}},
		"2: G2": {done(t, true, skew...), real,
			api.Report{Txns: 3, Unique: true, Anomalies: []api.Anomaly{cycle(api.AnG2, api.LevelPL3, false, first(0, 1, "y", 2), first(1, 0, "x", 1))}, Level: api.LevelPL3, Answer: api.AnswerNo}},
		"2: G2, not asked for more": {done(t, true, skew...), api.Options{Steps: 1000},
			api.Report{Txns: 3, Unique: true, Anomalies: []api.Anomaly{cycle(api.AnG2, api.LevelPL3, false, first(0, 1, "y", 2), first(1, 0, "x", 1))}, Level: api.LevelPL3}},
		"3: G1a": {done(t, true, "-[append x 1]", "[read x (1)]"), real,
			api.Report{Txns: 2, Unique: true, Anomalies: []api.Anomaly{{Kind: api.AnAborted, Txn: 1, Key: "x", Value: 1, Level: api.LevelPL2}}, Level: api.LevelPL2, Answer: api.AnswerNo}},
		"4: G-single": {done(t, true, "[append x 1]", "[read x (1)] [append x 3]", "[append x 2]", "[read x (1 2 3)]"), real,
			api.Report{Txns: 4, Unique: true, Anomalies: []api.Anomaly{
				cycle(api.AnSingle, api.LevelPL2P, false, rw(1, 2, "x", 1, 2), ww(2, 1, "x", 2, 3)),
				cycle(api.AnG2, api.LevelPL3, false, rw(1, 2, "x", 1, 2), ww(2, 1, "x", 2, 3))}, Level: api.LevelPL2P, Answer: api.AnswerNo}},
		"5: real time": {done(t, false, late...), real,
			api.Report{Txns: 3, Unique: true, Anomalies: []api.Anomaly{
				cycle(api.AnSingle, api.LevelStrict, true, first(1, 0, "x", 1), rt(0, 1)),
				cycle(api.AnG2, api.LevelStrict, true, first(1, 0, "x", 1), rt(0, 1))}, Level: api.LevelStrict, Answer: api.AnswerNo}},
		"5: without real time, but for the search": {done(t, false, late...), plain, api.Report{Txns: 3, Unique: true, Answer: api.AnswerNo}},
		"5: all at once": {done(t, true, late...), real, api.Report{Txns: 3, Unique: true, Answer: api.AnswerYes, Order: []int{1, 0, 2}}},
		"6: not unique, yes": {done(t, false, "[write x 1]", "[write x 1]", "[get x 1]"), real,
			api.Report{Txns: 3, Answer: api.AnswerYes, Order: []int{0, 1, 2}}},
		"6: not unique, no": {done(t, false, "[write x 1]", "[write x 1]", "[get x 2]"), real, api.Report{Txns: 3, Answer: api.AnswerNo}},
		"6: not unique, by itself": {done(t, false, "[write x 1]", "[write x 1] [get x 2]"), real,
			api.Report{Txns: 2, Anomalies: []api.Anomaly{{Kind: api.AnInternal, Txn: 1, Op: 1, Level: api.LevelPL1}}, Level: api.LevelPL1, Answer: api.AnswerNo}},
		"7: done": {events(t, "invoke 0 [append x 1]\ninvoke 1 [read x]\nok 1 [read x (1)]"), real,
			api.Report{Txns: 2, Unique: true, Answer: api.AnswerYes, Order: []int{0, 1}}},
		"7: not done": {events(t, "invoke 0 [append x 1]\ninvoke 1 [read x]\nok 1 [read x ()]"), real,
			api.Report{Txns: 2, Unique: true, Answer: api.AnswerYes, Order: []int{1}}},
		"nothing":                {nil, real, api.Report{Unique: true, Answer: api.AnswerYes}},
		"nothing, nothing asked": {nil, api.Options{}, api.Report{Unique: true}},
		"no steps":               {done(t, true, late...), api.Options{Search: true}, api.Report{Txns: 3, Unique: true, Answer: api.AnswerUnknown}},
		"fewer than none":        {done(t, true, late...), api.Options{Search: true, Steps: -5}, api.Report{Txns: 3, Unique: true, Answer: api.AnswerUnknown}},
		"more than all":          {done(t, true, late...), api.Options{Search: true, Steps: 1 << 60}, api.Report{Txns: 3, Unique: true, Answer: api.AnswerYes, Order: []int{1, 0, 2}}},
	} {
		got, err := Judge(c.l, c.o)
		if err != nil || !same(got, c.want) {
			t.Errorf("%s: %v\n%v, not\n%v", name, err, got, c.want)
		}
	}
}

// P20.1: each class, with its level, sure or not.
func TestCycles(t *testing.T) {
	for name, c := range map[string]struct {
		l    []api.Event
		want []api.Anomaly
	}{
		"G0": {done(t, true, "[append x 1] [append y 1]", "[append x 2] [append y 2]", "[read x (1 2)]", "[read y (2 1)]"), []api.Anomaly{
			cycle(api.AnG0, api.LevelPL1, false, ww(0, 1, "x", 1, 2), ww(1, 0, "y", 2, 1))}},
		"G0 of unknown end": {done(t, true, "[append x 1] [append y 1]", "?[append x 2] [append y 2]", "[read x (1 2)]", "[read y (2 1)]"), []api.Anomaly{
			cycle(api.AnG0, api.LevelPL2, false, ww(0, 1, "x", 1, 2), ww(1, 0, "y", 2, 1))}},
		"G0 with a condition": {done(t, true, "[write p 1] [append y 1]", "[get p 1] [write p 2] [append y 2]", "[read y (2 1)]"), []api.Anomaly{
			cycle(api.AnG0, api.LevelPL2, false, maybe(ww(0, 1, "p", 1, 2)), ww(1, 0, "y", 2, 1)),
			cycle(api.AnG1c, api.LevelPL2, false, wr(0, 1, "p", 1), ww(1, 0, "y", 2, 1))}},
		"G1c": {done(t, true, "[append x 1] [read y (2)]", "[append y 2] [read x (1)]"), []api.Anomaly{
			cycle(api.AnG1c, api.LevelPL2, false, wr(0, 1, "x", 1), wr(1, 0, "y", 2))}},
		"of two classes, one in time": {append(done(t, true, "[append x 1] [read y (2)]", "[append y 2] [read x (1)]"), shift(done(t, false, "[append z 1]", "[read z ()]", "[read z (1)]"))...), []api.Anomaly{
			cycle(api.AnG1c, api.LevelPL2, false, wr(0, 1, "x", 1), wr(1, 0, "y", 2)),
			cycle(api.AnSingle, api.LevelStrict, true, first(3, 2, "z", 1), rt(2, 3)),
			cycle(api.AnG2, api.LevelStrict, true, first(3, 2, "z", 1), rt(2, 3))}},
		"G0 in time": {append(done(t, false, "[append x 2]", "[append x 1]"), shift(done(t, true, "[read x (1 2)]"))...), []api.Anomaly{
			cycle(api.AnG0, api.LevelStrict, true, ww(1, 0, "x", 1, 2), rt(0, 1))}},
		"G1c in time": {done(t, false, "[get p 1]", "[write p 1]"), []api.Anomaly{
			cycle(api.AnG1c, api.LevelStrict, true, wr(1, 0, "p", 1), rt(0, 1))}},
	} {
		r, err := Judge(c.l, api.Options{Real: true})
		if err != nil || !sameAll(r.Anomalies, c.want) {
			t.Errorf("%s: %v\n%v, not\n%v", name, err, r.Anomalies, c.want)
		}
		var plain []api.Anomaly
		for _, a := range c.want {
			if !a.Real {
				plain = append(plain, a)
			}
		}
		if r, err := Judge(c.l, api.Options{}); err != nil || !sameAll(r.Anomalies, plain) {
			t.Errorf("%s, without real time: %v %v", name, err, r.Anomalies)
		}
	}
}

// shift is a history of other processes.
func shift(l []api.Event) []api.Event {
	for i := range l {
		l[i].Proc += 50
	}
	return l
}

// P20.1: transactions by themselves, then key by key, then cycles; each with its level, the lowest of which is the report's.
func TestOrderOfAnomalies(t *testing.T) {
	l := done(t, true,
		"[append d 1] [read d ()]", "-[append b 1]", "[write c 1] [write c 2]", "[get c 1] [read b (1)] [get a 9]", "[get q 1] [get q 2]",
		"[append x 1] [read y ()]", "[append y 2] [read x ()]", "[read x (1)] [read y (2)]", "-[read e (7)] [append e 1] [read e ()]")
	want := []api.Anomaly{
		{Kind: api.AnInternal, Txn: 0, Op: 1, Level: api.LevelPL1}, {Kind: api.AnInternal, Txn: 4, Op: 1, Level: api.LevelPL1},
		{Kind: api.AnGarbage, Txn: 3, Op: 2, Key: "a", Value: 9, Level: api.LevelPL1},
		{Kind: api.AnAborted, Txn: 3, Op: 1, Other: 1, Key: "b", Value: 1, Level: api.LevelPL2},
		{Kind: api.AnMiddle, Txn: 3, Op: 0, Other: 2, Key: "c", Value: 1, Level: api.LevelPL2},
		{Kind: api.AnGarbage, Txn: 4, Op: 0, Key: "q", Value: 1, Level: api.LevelPL1}, {Kind: api.AnGarbage, Txn: 4, Op: 1, Key: "q", Value: 2, Level: api.LevelPL1},
		cycle(api.AnG2, api.LevelPL3, false, first(5, 6, "y", 2), first(6, 5, "x", 1)),
	}
	r, err := Judge(l, api.Options{Real: true})
	if err != nil || !sameAll(r.Anomalies, want) || r.Level != api.LevelPL1 {
		t.Fatal(err, r)
	}
}

// P20.1: a version that stands ahead of itself, and a list out of order.
func TestOrderAnomalies(t *testing.T) {
	l := done(t, true, "[get p 2] [write p 1]", "[get p 1] [write p 2]", "[append x 1] [append x 2] [append x 3]", "[read x (2 1 3)]")
	want := []api.Anomaly{{Kind: api.AnOrder, Key: "p", Level: api.LevelPL3}, {Kind: api.AnOrder, Txn: 2, Key: "x", Value: 1, Level: api.LevelPL3}}
	r, err := Judge(l, api.Options{Real: true, Search: true, Steps: 100})
	if err != nil || !sameAll(r.Anomalies, want) || r.Level != api.LevelPL3 || r.Answer != api.AnswerNo {
		t.Fatal(err, r)
	}
}

// P20.1: transactions made by hand: by itself only one that is ok is wrong, whatever the others read; and what is no kind of operation says nothing.
func TestByHand(t *testing.T) {
	ops := []api.Op{{Kind: api.OpWrite, Key: "p", Value: 1}, {Kind: 9, Key: "p", Has: true}, {Kind: api.OpGet, Key: "p"}, {Kind: api.OpGet, Key: "p", Nil: true, Has: true}}
	for _, state := range []int{api.TxOk, api.TxFail, api.TxInfo, 0, 4, -1, 1 << 60} {
		var want []api.Anomaly
		if state == api.TxOk {
			want = []api.Anomaly{{Kind: api.AnInternal, Txn: 1, Op: 3, Level: api.LevelPL1}}
		}
		for _, real := range []bool{false, true} {
			if got := Anomalies([]api.Txn{{}, {State: state, From: -9, To: 1 << 62, Ops: ops}}, real); !sameAll(got, want) {
				t.Error(state, got)
			}
		}
	}
	if len(Anomalies(nil, true)) != 0 || len(Anomalies([]api.Txn{}, false)) != 0 {
		t.Error("of nothing")
	}
}

// P20.1: of more than MaxNodes transactions no cycle is told, but all else.
func TestMaxNodes(t *testing.T) {
	read := func(key string, l ...int) api.Op { return api.Op{Kind: api.OpRead, Key: key, List: l, Has: true} }
	add := func(key string, v int) api.Op { return api.Op{Kind: api.OpAppend, Key: key, Value: v} }
	l := make([]api.Txn, api.MaxNodes)
	for i := range l {
		l[i] = api.Txn{State: api.TxOk}
	}
	l[0].Ops = []api.Op{add("x", 1), read("y", 2)}
	l[api.MaxNodes-1].Ops = []api.Op{add("y", 2), read("x", 1)}
	l[7].Ops = []api.Op{read("z", 1)}
	wrong := api.Anomaly{Kind: api.AnGarbage, Txn: 7, Key: "z", Value: 1, Level: api.LevelPL1}
	round := cycle(api.AnG1c, api.LevelPL2, false, wr(0, api.MaxNodes-1, "x", 1), wr(api.MaxNodes-1, 0, "y", 2))
	for _, real := range []bool{false, true} {
		if got := Anomalies(l, real); !sameAll(got, []api.Anomaly{wrong, round}) {
			t.Error(got)
		}
		if got := Anomalies(append(slices.Clone(l), api.Txn{}), real); !sameAll(got, []api.Anomaly{wrong}) {
			t.Error(got)
		}
	}
}

// P20.2: pair's faults, each with its place, and no report.
func TestFaults(t *testing.T) {
	numbers := []api.Errno{api.ErrArg, api.ErrNil, api.ErrFull, api.ErrChar, api.ErrBig, api.ErrToken, api.ErrOpen, api.ErrNone, api.ErrMatch, api.ErrMixed, api.ErrNode, api.ErrForm, api.ErrWord}
	good := "invoke 0 [append x 1]\nok 0 [append x 1]\n"
	for name, c := range map[string]struct {
		l   []api.Event
		at  int
		why api.Errno
	}{
		"may not be":          {[]api.Event{{Kind: 9}}, 0, api.ErrArg},
		"may not be, later":   {append(events(t, good), api.Event{Kind: api.EvInvoke, Proc: api.MaxProc + 1}), 0, api.ErrArg},
		"too many":            {events(t, good+strings.Repeat("invoke 0 [read x]\nfail 0 [read x]\n", 149))[:api.MaxEvents:api.MaxEvents], -1, api.OK},
		"one too many":        {append(events(t, good+strings.Repeat("invoke 0 [read x]\nfail 0 [read x]\n", 149)), events(t, "invoke 0 [read x]")...), 0, api.ErrArg},
		"open":                {events(t, good+"invoke 1 [read x]\ninvoke 1 [read x]"), 3, api.ErrOpen},
		"gone":                {events(t, good+"invoke 1 [read x]\ninfo 1 [read x]\ninvoke 1 [read x]"), 4, api.ErrOpen},
		"no invocation":       {events(t, good+"ok 0 [append x 1]"), 2, api.ErrNone},
		"other operations":    {events(t, good+"invoke 0 [append x 2]\nok 0 [append x 3]"), 3, api.ErrMatch},
		"told ahead of time":  {events(t, good+"invoke 0 [read x (1)]"), 2, api.ErrMatch},
		"mixed":               {events(t, good+"invoke 0 [write x 1]"), 2, api.ErrMixed},
		"the first one":       {events(t, good+"invoke 0 [write x 1]\nok 7 [read x (1)]"), 2, api.ErrMixed},
		"the first of events": {events(t, "ok 7 [read x (1)]\n"+good), 0, api.ErrNone},
	} {
		for _, o := range []api.Options{{}, {Real: true, Search: true, Steps: 100}} {
			r, err := Judge(c.l, o)
			if c.why == api.OK {
				if err != nil || r.Txns != 150 {
					t.Errorf("%s: %v %v", name, r, err)
				}
				continue
			}
			if !reflect.DeepEqual(r, api.Report{}) || err != error(api.Fault{At: c.at, Why: c.why}) {
				t.Errorf("%s: %v %v", name, r, err)
			}
			var f api.Fault
			if !errors.As(err, &f) || f.At != c.at {
				t.Errorf("%s: %v", name, f)
			}
			for _, e := range numbers {
				if errors.Is(err, e) != (e == c.why) {
					t.Errorf("%s: %v is %v", name, err, e)
				}
			}
		}
	}
}

// Memory: what is handed in is as it was, the room behind it, too; answers are new.
func TestMemory(t *testing.T) {
	make2 := func() []api.Event {
		return done(t, false, "[append x 1] [read y ()]", "[append y 2] [read x ()]", "[read x (1)] [read y (2)]", "[append z 1]", "[read z ()]", "[read z (1)] [read w (5)]", "[get p 1]", "[write p 1]")
	}
	l := append(make2(), api.Event{Kind: 77})
	handed := l[:len(l)-1]
	o := api.Options{Real: true, Search: true, Steps: 100}
	a, _ := Judge(handed, o)
	b, _ := Judge(handed, o)
	if !reflect.DeepEqual(handed, make2()) || l[len(handed)].Kind != 77 {
		t.Fatal(l)
	}
	if len(a.Anomalies) < 4 || !same(a, b) {
		t.Fatal(a, b)
	}
	for _, x := range b.Anomalies {
		clear(x.Cycle[:cap(x.Cycle)])
	}
	clear(b.Anomalies[:cap(b.Anomalies)])
	clear(b.Order[:cap(b.Order)])
	c, _ := Judge(handed, o)
	if !same(a, c) || !reflect.DeepEqual(handed, make2()) {
		t.Fatal(a, c)
	}
	one := a.Anomalies[len(a.Anomalies)-1].Cycle
	keep := slices.Clone(one)
	for _, x := range a.Anomalies[:len(a.Anomalies)-1] {
		clear(x.Cycle[:cap(x.Cycle)])
	}
	if !slices.Equal(one, keep) {
		t.Fatal("cycles share memory", one)
	}
	for _, e := range handed {
		clear(e.Ops)
	}
	clear(handed)
	if len(c.Anomalies) != len(a.Anomalies) || c.Anomalies[0].Key != "w" {
		t.Fatal(c)
	}
}

// Ends: the longest history there may be, with as many keys as there may be.
func TestLong(t *testing.T) {
	var l []api.Event
	for i := range api.MaxEvents / 2 {
		var asked, told []api.Op
		for k := range api.MaxOps {
			key := string([]byte{'k', byte('a' + i%26), byte('a' + i/26), byte('a' + k)})
			asked = append(asked, api.Op{Kind: api.OpRead, Key: key})
			told = append(told, api.Op{Kind: api.OpRead, Key: key, Has: true})
		}
		l = append(l, api.Event{Kind: api.EvInvoke, Ops: asked}, api.Event{Kind: api.EvOk, Ops: told})
	}
	r, err := Judge(l, api.Options{Real: true, Search: true, Steps: api.MaxSteps})
	if err != nil || r.Txns != api.MaxEvents/2 || len(r.Anomalies) != 0 || r.Answer != api.AnswerYes || len(r.Order) != r.Txns {
		t.Fatal(err, r.Txns, len(r.Anomalies), r.Answer)
	}
}
