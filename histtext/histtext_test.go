package histtext

import (
	"errors"
	"math"
	"slices"
	"strings"
	"testing"

	"assayer/api"
)

// wantFault fails unless a text is refused with that fault, as a value, with that number alone in it, and no events.
func wantFault(t *testing.T, s string, at int, why api.Errno) {
	t.Helper()
	l, err := Parse(s)
	if f, ok := err.(api.Fault); !ok || f != (api.Fault{At: at, Why: why}) {
		t.Fatalf("%q: %v, %v, want error %d at %d", s, l, err, why, at)
	}
	for n := api.Errno(0); n < 300; n++ {
		if errors.Is(err, n) != (n == why) {
			t.Fatalf("%q: errors.Is of %d", s, n)
		}
	}
	if len(l) != 0 {
		t.Fatalf("%q: events beside a fault: %v", s, l)
	}
}

func parsed(t *testing.T, s string) []api.Event {
	t.Helper()
	l, err := Parse(s)
	if err != nil {
		t.Fatalf("%q: %v", s, err)
	}
	return l
}

const ordinaryText = `invoke 0 [ append x 1 ] [ read y ]
ok 0 [ append x 1 ] [ read y ( 3 4 ) ]
fail 99 [ read abc123 ( ) ]
info 7 [ write p -2 ] [ get q nil ] [ get p -2 ] [ get p ] [ get p 0 ]
ok 1 [ append a -9223372036854775808 ] [ write b 9223372036854775807 ] [ read c ( -9223372036854775808 9223372036854775807 ) ]
`

func ordinaryHistory() []api.Event {
	return []api.Event{
		{Kind: api.EvInvoke, Proc: 0, Ops: []api.Op{{Kind: api.OpAppend, Key: "x", Value: 1}, {Kind: api.OpRead, Key: "y"}}},
		{Kind: api.EvOk, Proc: 0, Ops: []api.Op{{Kind: api.OpAppend, Key: "x", Value: 1}, {Kind: api.OpRead, Key: "y", Has: true, List: []int{3, 4}}}},
		{Kind: api.EvFail, Proc: 99, Ops: []api.Op{{Kind: api.OpRead, Key: "abc123", Has: true}}},
		{Kind: api.EvInfo, Proc: 7, Ops: []api.Op{
			{Kind: api.OpWrite, Key: "p", Value: -2},
			{Kind: api.OpGet, Key: "q", Has: true, Nil: true},
			{Kind: api.OpGet, Key: "p", Has: true, Value: -2},
			{Kind: api.OpGet, Key: "p"},
			{Kind: api.OpGet, Key: "p", Has: true},
		}},
		{Kind: api.EvOk, Proc: 1, Ops: []api.Op{
			{Kind: api.OpAppend, Key: "a", Value: math.MinInt64},
			{Kind: api.OpWrite, Key: "b", Value: math.MaxInt64},
			{Kind: api.OpRead, Key: "c", Has: true, List: []int{math.MinInt64, math.MaxInt64}},
		}},
	}
}

// P2.1
func TestParse(t *testing.T) {
	want := ordinaryHistory()
	for _, s := range []string{
		ordinaryText,
		strings.TrimSuffix(ordinaryText, "\n"),
		"\n \n" + strings.ReplaceAll(ordinaryText, "\n", "\n\n  \n") + "\n",
		strings.ReplaceAll(ordinaryText, " ", "   "),
		strings.NewReplacer(" [ ", "[", " ]", "]", " ( ", "(", " )", ")").Replace(ordinaryText),
	} {
		if got := parsed(t, s); !Same(got, want) {
			t.Errorf("%q: %v", s, got)
		}
	}
	for _, s := range []string{"", " ", "\n", "\n  \n"} {
		if got := parsed(t, s); len(got) != 0 {
			t.Errorf("%q: %v", s, got)
		}
	}
	got := parsed(t, "ok 0 [get nil nil] [read ok] [append append 0]")
	if !Same(got, []api.Event{{Kind: api.EvOk, Ops: []api.Op{{Kind: api.OpGet, Key: "nil", Has: true, Nil: true}, {Kind: api.OpRead, Key: "ok"}, {Kind: api.OpAppend, Key: "append"}}}}) {
		t.Error(got)
	}
}

// P2.1: at each place of the grammar, each token that can't stand there.
func TestParseEachPlace(t *testing.T) {
	words := []string{"invoke", "ok", "fail", "info", "append", "read", "write", "get", "nil", "x", "abc123"}
	numbers := []string{"0", "99", "100", "-1", "9223372036854775807"}
	all := slices.Concat(words, numbers, []string{"abcdefg", "[", "]", "(", ")", "\n"})
	for _, x := range []struct {
		text string // up to the place
		next []string
		ends bool
	}{
		{"", []string{"invoke", "ok", "fail", "info", "\n"}, true},
		{"ok", []string{"0", "99"}, false},
		{"ok 0", []string{"["}, false},
		{"ok 0 [", []string{"append", "read", "write", "get"}, false},
		{"ok 0 [ append", words, false},
		{"ok 0 [ append x", numbers, false},
		{"ok 0 [ append x 1", []string{"]"}, false},
		{"ok 0 [ write", words, false},
		{"ok 0 [ write x", numbers, false},
		{"ok 0 [ write x 1", []string{"]"}, false},
		{"ok 0 [ read", words, false},
		{"ok 0 [ read x", []string{"(", "]"}, false},
		{"ok 0 [ read x (", append([]string{")"}, numbers...), false},
		{"ok 0 [ read x ( 1", append([]string{")"}, numbers...), false},
		{"ok 0 [ read x ( 1 )", []string{"]"}, false},
		{"ok 0 [ get", words, false},
		{"ok 0 [ get x", append([]string{"nil", "]"}, numbers...), false},
		{"ok 0 [ get x 1", []string{"]"}, false},
		{"ok 0 [ get x nil", []string{"]"}, false},
		{"ok 0 [ get x ]", []string{"[", "\n"}, true},
		{"ok 0 [ get x ]\n", []string{"invoke", "ok", "fail", "info", "\n"}, true},
	} {
		if x.ends {
			parsed(t, x.text+"  ")
		} else {
			wantFault(t, x.text, len(x.text), api.ErrToken)
			wantFault(t, x.text+"  ", len(x.text)+2, api.ErrToken)
		}
		for _, token := range all {
			s := x.text + " " + token
			if !slices.Contains(x.next, token) {
				wantFault(t, s, len(x.text)+1, api.ErrToken)
				wantFault(t, s+" ]]\nok", len(x.text)+1, api.ErrToken)
			} else if _, err := Parse(s); err != nil && err.(api.Fault).At != len(s) {
				t.Errorf("%q: %v", s, err)
			}
		}
	}
}

// P2.1: the faults of layer 1 come ahead, wherever they are.
func TestParseScansFirst(t *testing.T) {
	wantFault(t, "] 0 A", 4, api.ErrChar)
	wantFault(t, "ok ok 9223372036854775808", 6, api.ErrBig)
	wantFault(t, "ok 01 [", 4, api.ErrChar)
	wantFault(t, "]"+strings.Repeat(" ", api.MaxText), 0, api.ErrFull)
	wantFault(t, "]"+strings.Repeat(" ", api.MaxText-1), 0, api.ErrToken)
	if got := parsed(t, strings.Repeat(" ", api.MaxText)); len(got) != 0 {
		t.Error(got)
	}
}

// P2.1
func TestParseLimits(t *testing.T) {
	ops := "ok 0" + strings.Repeat(" [get x]", api.MaxOps)
	if l := parsed(t, ops); len(l[0].Ops) != api.MaxOps {
		t.Error("operations", l)
	}
	wantFault(t, ops+" [get x]", len(ops)+1, api.ErrFull)
	wantFault(t, ops+" [", len(ops)+1, api.ErrFull)
	wantFault(t, ops+" ]", len(ops)+1, api.ErrToken)

	values := "ok 0 [read x (" + strings.Repeat(" 5", api.MaxList)
	if l := parsed(t, values+")]"); len(l[0].Ops[0].List) != api.MaxList {
		t.Error("values", l)
	}
	wantFault(t, values+" -5)]", len(values)+1, api.ErrFull)
	wantFault(t, values+" x)]", len(values)+1, api.ErrToken)

	events := strings.Repeat("ok 0[get x]\n", api.MaxEvents)
	if l := parsed(t, events+" \n\n"); len(l) != api.MaxEvents {
		t.Error("events", len(l))
	}
	for _, s := range []string{"ok 0[get x]", "ok", "x", "7", "]", "["} {
		wantFault(t, events+" \n "+s, len(events)+3, api.ErrFull)
	}

	parsed(t, "ok 99 [get abcdef]")
	wantFault(t, "ok 100 [get abcdef]", 3, api.ErrToken)
	wantFault(t, "ok -1 [get abcdef]", 3, api.ErrToken)
	wantFault(t, "ok 99 [get abcdefg]", 11, api.ErrToken)
}

// P2.1: every beginning of a text is read, or refused at its end.
func TestParseBeginnings(t *testing.T) {
	for n := range len(ordinaryText) + 1 {
		s := ordinaryText[:n]
		if _, err := Parse(s); err != nil {
			f := err.(api.Fault)
			if f.Why == api.ErrChar && strings.HasSuffix(s, "-") {
				continue
			}
			cut := strings.LastIndexAny(s, " \n") + 1 // a word may be cut through
			if f.Why != api.ErrToken || f.At != len(s) && f.At != cut {
				t.Errorf("%q: %v", s, err)
			}
		}
	}
}

// P2.2
func TestPrint(t *testing.T) {
	if s := Print(ordinaryHistory()); s != ordinaryText {
		t.Errorf("%q", s)
	}
	if s := Print(nil) + Print([]api.Event{}); s != "" {
		t.Errorf("%q", s)
	}
	for _, x := range brokenHistories() {
		if s := Print(x.l); s != "" {
			t.Errorf("%s: %q", x.what, s)
		}
	}
}

// P2.2
func TestCan(t *testing.T) {
	for _, l := range [][]api.Event{
		nil,
		{},
		ordinaryHistory(),
		oneOp(api.Op{Kind: api.OpAppend, Key: "x", List: []int{}}),
		oneOp(api.Op{Kind: api.OpRead, Key: "abcdef", Has: true, List: make([]int, api.MaxList)}),
		oneOp(api.Op{Kind: api.OpRead, Key: "nil", List: []int{}}),
		{{Kind: api.EvInfo, Proc: api.MaxProc, Ops: slices.Repeat([]api.Op{{Kind: api.OpGet, Key: "z9"}}, api.MaxOps)}},
		slices.Repeat(oneOp(api.Op{Kind: api.OpGet, Key: "x"}), api.MaxEvents),
	} {
		if !Can(l) {
			t.Errorf("may not be: %v", l)
		}
	}
	for _, x := range brokenHistories() {
		if Can(x.l) {
			t.Errorf("may be: %s", x.what)
		}
		if Can(append(ordinaryHistory(), x.l...)) {
			t.Errorf("may be behind others: %s", x.what)
		}
	}
}

func oneOp(o api.Op) []api.Event {
	return []api.Event{{Kind: api.EvOk, Proc: 1, Ops: []api.Op{o}}}
}

type brokenHistory struct {
	what string
	l    []api.Event
}

func brokenHistories() []brokenHistory {
	get := api.Op{Kind: api.OpGet, Key: "x"}
	out := []brokenHistory{
		{"events", slices.Repeat(oneOp(get), api.MaxEvents+1)},
		{"no operations", []api.Event{{Kind: api.EvOk}}},
		{"operations", []api.Event{{Kind: api.EvOk, Ops: slices.Repeat([]api.Op{get}, api.MaxOps+1)}}},
	}
	for _, kind := range []int{math.MinInt, -1, 0, 5, math.MaxInt} {
		out = append(out,
			brokenHistory{"kind of an event", []api.Event{{Kind: kind, Ops: []api.Op{get}}}},
			brokenHistory{"kind of an operation", oneOp(api.Op{Kind: kind, Key: "x"})})
	}
	for _, proc := range []int{math.MinInt, -1, api.MaxProc + 1, math.MaxInt} {
		out = append(out, brokenHistory{"process", []api.Event{{Kind: api.EvOk, Proc: proc, Ops: []api.Op{get}}}})
	}
	for _, key := range []string{"", "X", "1", "1a", "-1", "a b", " a", "a ", "a\n", "[", "a_b", "é", "abcdefg", strings.Repeat("a", api.MaxText+1)} {
		for kind := api.OpAppend; kind <= api.OpGet; kind++ {
			out = append(out, brokenHistory{"key " + key, oneOp(api.Op{Kind: kind, Key: key})})
		}
	}
	for _, kind := range []int{api.OpAppend, api.OpWrite} {
		out = append(out,
			brokenHistory{"write with a list", oneOp(api.Op{Kind: kind, Key: "x", List: []int{0}})},
			brokenHistory{"write with Has", oneOp(api.Op{Kind: kind, Key: "x", Has: true})},
			brokenHistory{"write with Nil", oneOp(api.Op{Kind: kind, Key: "x", Nil: true})})
	}
	return append(out,
		brokenHistory{"read with a value", oneOp(api.Op{Kind: api.OpRead, Key: "x", Value: 1})},
		brokenHistory{"read with Has and a value", oneOp(api.Op{Kind: api.OpRead, Key: "x", Has: true, Value: -1})},
		brokenHistory{"read with Nil", oneOp(api.Op{Kind: api.OpRead, Key: "x", Nil: true})},
		brokenHistory{"read with Has and Nil", oneOp(api.Op{Kind: api.OpRead, Key: "x", Has: true, Nil: true})},
		brokenHistory{"read without Has, with a list", oneOp(api.Op{Kind: api.OpRead, Key: "x", List: []int{1}})},
		brokenHistory{"values", oneOp(api.Op{Kind: api.OpRead, Key: "x", Has: true, List: make([]int, api.MaxList+1)})},
		brokenHistory{"get with a list", oneOp(api.Op{Kind: api.OpGet, Key: "x", List: []int{1}})},
		brokenHistory{"get with Has and a list", oneOp(api.Op{Kind: api.OpGet, Key: "x", Has: true, List: []int{1}})},
		brokenHistory{"get without Has, with a value", oneOp(api.Op{Kind: api.OpGet, Key: "x", Value: 1})},
		brokenHistory{"get with Nil and a value", oneOp(api.Op{Kind: api.OpGet, Key: "x", Has: true, Nil: true, Value: 1})},
		brokenHistory{"get without Has, with Nil", oneOp(api.Op{Kind: api.OpGet, Key: "x", Nil: true})})
}

// P2.2
func TestSame(t *testing.T) {
	if !Same(ordinaryHistory(), ordinaryHistory()) || !Same(nil, []api.Event{}) || !Same([]api.Event{{}}, []api.Event{{Ops: []api.Op{}}}) {
		t.Error("the same ones")
	}
	a := oneOp(api.Op{Kind: api.OpRead, Key: "x", Has: true})
	b := oneOp(api.Op{Kind: api.OpRead, Key: "x", Has: true, List: []int{}})
	if !Same(a, b) || !Same(b, a) {
		t.Error("nil and empty lists")
	}
	for _, x := range brokenHistories() {
		if !Same(x.l, x.l) {
			t.Error("one that may not be:", x.what)
		}
	}
	for i, change := range []func(l []api.Event){
		func(l []api.Event) { l[3].Kind = api.EvOk },
		func(l []api.Event) { l[3].Proc++ },
		func(l []api.Event) { l[3].Ops = l[3].Ops[:4] },
		func(l []api.Event) { l[3].Ops = nil },
		func(l []api.Event) { l[3].Ops[0].Kind = api.OpAppend },
		func(l []api.Event) { l[3].Ops[0].Key = "q" },
		func(l []api.Event) { l[3].Ops[0].Value = 2 },
		func(l []api.Event) { l[3].Ops[4].Has = false },
		func(l []api.Event) { l[3].Ops[1].Nil = false },
		func(l []api.Event) { l[1].Ops[1].List[1] = 5 },
		func(l []api.Event) { l[1].Ops[1].List = []int{3} },
		func(l []api.Event) { l[1].Ops[1].List = []int{4, 3} },
		func(l []api.Event) { l[0], l[1] = l[1], l[0] },
	} {
		l := ordinaryHistory()
		change(l)
		if Same(l, ordinaryHistory()) || Same(ordinaryHistory(), l) {
			t.Error("change", i)
		}
	}
	l := ordinaryHistory()
	if Same(l, l[:4]) || Same(l[:4], l) || Same(l, nil) || Same(nil, l) {
		t.Error("lengths")
	}
}

// histories is many histories that may be, made by a short rule.
func histories() [][]api.Event {
	keys := []string{"x", "y1", "nil", "abcdef", "ok"}
	values := []int{0, 1, -1, 42, math.MaxInt64, math.MinInt64}
	seed := uint32(1)
	pick := func(n int) int {
		seed = seed*1664525 + 1013904223
		return int(seed>>16) % n
	}
	op := func() api.Op {
		o := api.Op{Kind: 1 + pick(4), Key: keys[pick(len(keys))]}
		switch o.Kind {
		case api.OpAppend, api.OpWrite:
			o.Value = values[pick(len(values))]
		case api.OpRead:
			if o.Has = pick(3) > 0; o.Has {
				for range pick(5) {
					o.List = append(o.List, values[pick(len(values))])
				}
			}
		case api.OpGet:
			if o.Has = pick(3) > 0; o.Has {
				if o.Nil = pick(2) > 0; !o.Nil {
					o.Value = values[pick(len(values))]
				}
			}
		}
		return o
	}
	out := [][]api.Event{nil, ordinaryHistory()}
	for range 500 {
		var l []api.Event
		for range pick(10) {
			e := api.Event{Kind: 1 + pick(4), Proc: pick(api.MaxProc + 1)}
			for range 1 + pick(api.MaxOps) {
				e.Ops = append(e.Ops, op())
			}
			l = append(l, e)
		}
		out = append(out, l)
	}
	return out
}

// P2.3
func TestThereAndBack(t *testing.T) {
	for _, l := range histories() {
		s := Print(l)
		if !Can(l) || len(s) > api.MaxText {
			t.Fatal("no history to try with", l)
		}
		if got := parsed(t, s); !Same(got, l) {
			t.Fatalf("%q: %v", s, got)
		}
	}
	long := oneOp(api.Op{Kind: api.OpRead, Key: "abcdef", Has: true, List: slices.Repeat([]int{math.MinInt64}, api.MaxList)})
	long = slices.Repeat(long, 300)
	for n := range long {
		s := Print(long[:n])
		if len(s) > api.MaxText {
			wantFault(t, s, 0, api.ErrFull)
			return
		}
		if !Same(parsed(t, s), long[:n]) {
			t.Fatal(n)
		}
	}
}

// P2.4: texts of other forms; the printed one has at most MaxText bytes here, as a longer one is none that Parse reads.
func TestOneForm(t *testing.T) {
	dense := strings.NewReplacer(" [ ", "[", " ] ", "]", " ]", "]", " ( ", "(", " )", ")")
	for _, l := range histories() {
		s := Print(l)
		for _, other := range []string{dense.Replace(s), "\n\n " + strings.ReplaceAll(s, "\n", " \n\n"), strings.TrimSuffix(s, "\n")} {
			got := parsed(t, other)
			if printed := Print(got); printed != s || !Same(parsed(t, printed), got) {
				t.Fatalf("%q: %q", other, printed)
			}
		}
	}
}

// What is handed in stays as it is, and no two lists of an answer share memory.
func TestMemory(t *testing.T) {
	l := ordinaryHistory()
	Can(l[:3])
	Same(l[:3], l)
	Print(l[:3])
	if !Same(l, ordinaryHistory()) {
		t.Error("an argument was changed")
	}
	got := parsed(t, ordinaryText)
	for i, e := range got {
		_ = append(e.Ops, api.Op{Kind: -i})
		for j, o := range e.Ops {
			_ = append(o.List, 1000*i+j)
		}
	}
	for i, e := range got {
		for _, o := range e.Ops {
			spare := o.List[len(o.List):cap(o.List)]
			if len(spare) > 0 && spare[0]/1000 != i {
				t.Error("shared room behind a list")
			}
		}
		if spare := e.Ops[len(e.Ops):cap(e.Ops)]; len(spare) > 0 && spare[0].Kind != -i {
			t.Error("shared room behind operations")
		}
	}
	if !Same(got, ordinaryHistory()) {
		t.Error("shared memory within an answer")
	}
}
