package pair

import (
	"errors"
	"math"
	"math/rand"
	"reflect"
	"testing"

	"assayer/api"
	"assayer/histtext"
)

// history reads events from a text, so that the tests are easy to read.
func history(t *testing.T, s string) []api.Event {
	t.Helper()
	l, err := histtext.Parse(s)
	if err != nil {
		t.Fatalf("%q: %v", s, err)
	}
	return l
}

// wantFault fails unless both calls refuse a history with that fault, as a value, with that number alone in it, and no transactions.
func wantFault(t *testing.T, l []api.Event, at int, why api.Errno) {
	t.Helper()
	x, err := Txns(l)
	if len(x) != 0 {
		t.Fatalf("transactions beside a fault: %v", x)
	}
	for _, err := range []error{err, Check(l)} {
		if f, ok := err.(api.Fault); !ok || f != (api.Fault{At: at, Why: why}) {
			t.Fatalf("%v: %v, want error %d at %d", l, err, why, at)
		}
		for n := api.Errno(0); n < 300; n++ {
			if errors.Is(err, n) != (n == why) {
				t.Fatalf("%v: errors.Is of %d", l, n)
			}
		}
	}
}

func wantTxns(t *testing.T, l []api.Event, want ...api.Txn) {
	t.Helper()
	if err := Check(l); err != nil {
		t.Fatalf("Check: %v", err)
	}
	x, err := Txns(l)
	if err != nil || len(x) != len(want) {
		t.Fatalf("%v, %v, want %v", x, err, want)
	}
	for i := range want {
		if !sameTxn(x[i], want[i]) {
			t.Fatalf("transaction %d: %v, want %v", i, x[i], want[i])
		}
	}
}

// sameTxn takes nil and empty lists for the same.
func sameTxn(a, b api.Txn) bool {
	one := func(x api.Txn) []api.Event { return []api.Event{{Ops: x.Ops}} }
	same := histtext.Same(one(a), one(b))
	a.Ops, b.Ops = nil, nil
	return same && reflect.DeepEqual(a, b)
}

// P3.2, and P3.1 of what is well formed.
func TestTxns(t *testing.T) {
	l := history(t, `invoke 0 [ append x 1 ] [ read y ]
invoke 99 [ write p 5 ] [ get q ] [ get q ]
ok 99 [ write p 5 ] [ get q nil ] [ get q 7 ]
info 0 [ append x 1 ] [ read y ]
invoke 99 [ get p ]
invoke 3 [ read x ] [ read x ]
fail 99 [ get p ]
invoke 99 [ get p ]
ok 3 [ read x ( 1 2 ) ] [ read x ( ) ]`)
	wantTxns(t, l,
		api.Txn{Proc: 0, State: api.TxInfo, From: 0, To: 3, Ops: l[3].Ops},
		api.Txn{Proc: 99, State: api.TxOk, From: 1, To: 2, Ops: l[2].Ops},
		api.Txn{Proc: 99, State: api.TxFail, From: 4, To: 6, Ops: l[6].Ops},
		api.Txn{Proc: 3, State: api.TxOk, From: 5, To: 8, Ops: l[8].Ops},
		api.Txn{Proc: 99, State: api.TxInfo, From: 7, To: -1, Ops: l[7].Ops},
	)
	wantTxns(t, nil)
	wantTxns(t, []api.Event{})
}

// The chapter's example.
func TestExample(t *testing.T) {
	l := history(t, "invoke 0 [read x]\ninvoke 1 [read x]\nok 1 [read x ()]\ninfo 0 [read x]")
	wantTxns(t, l,
		api.Txn{Proc: 0, State: api.TxInfo, From: 0, To: 3, Ops: l[3].Ops},
		api.Txn{Proc: 1, State: api.TxOk, From: 1, To: 2, Ops: l[2].Ops},
	)
}

// P3.1: what may not be is ErrArg at 0, ahead of all else.
func TestCheckWhatMayNotBe(t *testing.T) {
	good := func() []api.Event {
		return history(t, "invoke 0 [append x 1]\nok 0 [append x 1]\nok 7 [append x 1]")
	}
	wantFault(t, good(), 2, api.ErrNone)
	for name, spoil := range map[string]func(l []api.Event){
		"kind 0":        func(l []api.Event) { l[2].Kind = 0 },
		"kind 5":        func(l []api.Event) { l[2].Kind = 5 },
		"process -1":    func(l []api.Event) { l[1].Proc = -1 },
		"process 100":   func(l []api.Event) { l[1].Proc = api.MaxProc + 1 },
		"huge process":  func(l []api.Event) { l[1].Proc = math.MaxInt },
		"no operations": func(l []api.Event) { l[2].Ops = nil },
		"nine":          func(l []api.Event) { l[0].Ops = make([]api.Op, 9) },
		"no key":        func(l []api.Event) { l[0].Ops[0].Key = "" },
		"kind of an op": func(l []api.Event) { l[0].Ops[0].Kind = 9 },
		"has":           func(l []api.Event) { l[0].Ops[0].Has = true },
	} {
		l := good()
		spoil(l)
		if histtext.Can(l) {
			t.Fatal(name)
		}
		wantFault(t, l, 0, api.ErrArg)
	}
}

// P3.1 at the limit of events, and one beyond it.
func TestCheckManyEvents(t *testing.T) {
	var l []api.Event
	for i := range api.MaxEvents/2 + 1 {
		e := history(t, "invoke 99 [get x]\nfail 99 [get x]")
		e[0].Proc, e[1].Proc = i%100, i%100
		l = append(l, e...)
	}
	x, err := Txns(l[:api.MaxEvents])
	if err != nil || len(x) != api.MaxEvents/2 {
		t.Fatal(len(x), err)
	}
	wantFault(t, l[:api.MaxEvents+1], 0, api.ErrArg)
}

// P3.1: each error alone, at its event.
func TestCheckFaults(t *testing.T) {
	for _, c := range []struct {
		s   string
		at  int
		why api.Errno
	}{
		{"invoke 0 [read x]\ninvoke 0 [read x]", 1, api.ErrOpen},
		{"invoke 0 [read x]\ninfo 0 [read x]\ninvoke 0 [read x]", 2, api.ErrOpen},
		{"invoke 5 [read x]\ninfo 5 [read x]\ninvoke 0 [read x]\ninvoke 5 [read y]", 3, api.ErrOpen},
		{"ok 0 [read x ()]", 0, api.ErrNone},
		{"fail 0 [read x]", 0, api.ErrNone},
		{"info 0 [read x]", 0, api.ErrNone},
		{"invoke 0 [read x]\nok 1 [read x ()]", 1, api.ErrNone},
		{"invoke 0 [read x]\nok 0 [read x ()]\nok 0 [read x ()]", 2, api.ErrNone},
		{"invoke 0 [read x]\nfail 0 [read x]\ninfo 0 [read x]", 2, api.ErrNone},
		{"invoke 0 [read x]\ninfo 0 [read x]\nok 0 [read x ()]", 2, api.ErrNone},
		{"invoke 0 [read x] [read y]\nok 0 [read x ()]", 1, api.ErrMatch},
		{"invoke 0 [read x]\nok 0 [read x ()] [read x ()]", 1, api.ErrMatch},
		{"invoke 0 [read x]\nok 0 [read y ()]", 1, api.ErrMatch},
		{"invoke 0 [read x] [read y]\nok 0 [read y ()] [read x ()]", 1, api.ErrMatch},
		{"invoke 0 [read x]\nok 0 [append x 0]", 1, api.ErrMatch},
		{"invoke 0 [append x 1]\nok 0 [append x 2]", 1, api.ErrMatch},
		{"invoke 0 [write x 1]\nok 0 [write x 2]", 1, api.ErrMatch},
		{"invoke 0 [write x 1]\nfail 0 [write x 2]", 1, api.ErrMatch},
		{"invoke 0 [write x 1]\ninfo 0 [write x 2]", 1, api.ErrMatch},
		{"invoke 0 [read x ()]", 0, api.ErrMatch},
		{"invoke 0 [read x] [read y (1)]", 0, api.ErrMatch},
		{"invoke 0 [get x nil]", 0, api.ErrMatch},
		{"invoke 0 [get x 1]", 0, api.ErrMatch},
		{"invoke 0 [read x]\nok 0 [read x]", 1, api.ErrMatch},
		{"invoke 0 [get x] [get x]\nok 0 [get x 1] [get x]", 1, api.ErrMatch},
		{"invoke 0 [read x]\nfail 0 [read x ()]", 1, api.ErrMatch},
		{"invoke 0 [get x]\ninfo 0 [get x 0]", 1, api.ErrMatch},
		{"invoke 0 [append x 1] [write x 1]", 0, api.ErrMixed},
		{"invoke 0 [read x] [get x]", 0, api.ErrMixed},
		{"invoke 0 [get x]\ninvoke 1 [append x 1]", 1, api.ErrMixed},
		{"invoke 0 [append x 1]\nfail 0 [append x 1]\ninvoke 1 [write x 1]", 2, api.ErrMixed},
		{"invoke 0 [write x 1]\ninvoke 1 [read y]\ninvoke 2 [read x]", 2, api.ErrMixed},
	} {
		wantFault(t, history(t, c.s), c.at, c.why)
	}
}

// P3.1: of several errors the first event's, and of one event's the first one of the chapter.
func TestCheckFirstFault(t *testing.T) {
	for _, c := range []struct {
		s   string
		at  int
		why api.Errno
	}{
		{"invoke 0 [read x]\ninvoke 0 [get x 1]", 1, api.ErrOpen},
		{"invoke 0 [read x]\nok 1 [get x]", 1, api.ErrNone},
		{"invoke 0 [read x]\nok 0 [get x nil]", 1, api.ErrMatch},
		{"invoke 0 [read x] [get x nil]", 0, api.ErrMatch},
		{"invoke 0 [read x] [get x]\nok 1 [get x]\ninvoke 0 [read x]", 0, api.ErrMixed},
		{"ok 1 [get x]\ninvoke 0 [get x 1]", 0, api.ErrNone},
	} {
		wantFault(t, history(t, c.s), c.at, c.why)
	}
}

// fault is the words of the chapter, looked up in the events themselves, all of them for each event.
func fault(l []api.Event) error {
	if !histtext.Can(l) {
		return api.Fault{Why: api.ErrArg}
	}
	for i, e := range l {
		if why := faultAt(l[:i], e); why != api.OK {
			return api.Fault{At: i, Why: why}
		}
	}
	return nil
}

func faultAt(ahead []api.Event, e api.Event) api.Errno {
	var last *api.Event
	gone := false
	for i := range ahead {
		if ahead[i].Proc == e.Proc {
			last = &ahead[i]
			gone = gone || ahead[i].Kind == api.EvInfo
		}
	}
	open := last != nil && last.Kind == api.EvInvoke
	if e.Kind == api.EvInvoke && (open || gone) {
		return api.ErrOpen
	}
	if e.Kind != api.EvInvoke && !open {
		return api.ErrNone
	}
	if e.Kind != api.EvInvoke && len(last.Ops) != len(e.Ops) {
		return api.ErrMatch
	}
	for i, o := range e.Ops {
		if e.Kind != api.EvInvoke {
			a := last.Ops[i]
			if a.Kind != o.Kind || a.Key != o.Key {
				return api.ErrMatch
			}
			if (o.Kind == api.OpAppend || o.Kind == api.OpWrite) && a.Value != o.Value {
				return api.ErrMatch
			}
		}
		if (o.Kind == api.OpRead || o.Kind == api.OpGet) && o.Has != (e.Kind == api.EvOk) {
			return api.ErrMatch
		}
	}
	all := append(ahead[:len(ahead):len(ahead)], e)
	for _, a := range all {
		for _, o := range a.Ops {
			for _, b := range all {
				for _, p := range b.Ops {
					if o.Key == p.Key && o.Kind <= api.OpRead && p.Kind >= api.OpWrite {
						return api.ErrMixed
					}
				}
			}
		}
	}
	return api.OK
}

// wanted is the transactions of a well-formed history: each invocation, and the next event of its process.
func wanted(l []api.Event) []api.Txn {
	var x []api.Txn
	for i, e := range l {
		if e.Kind != api.EvInvoke {
			continue
		}
		one := api.Txn{Proc: e.Proc, State: api.TxInfo, From: i, To: -1, Ops: e.Ops}
		for k := len(l) - 1; k > i; k-- {
			if l[k].Proc == e.Proc {
				one.To, one.Ops = k, l[k].Ops
				one.State = map[int]int{api.EvOk: api.TxOk, api.EvFail: api.TxFail, api.EvInfo: api.TxInfo}[l[k].Kind]
			}
		}
		x = append(x, one)
	}
	return x
}

func againstWords(t *testing.T, l []api.Event) bool {
	t.Helper()
	if f := fault(l); f != nil {
		wantFault(t, l, f.(api.Fault).At, f.(api.Fault).Why)
		return false
	}
	wantTxns(t, l, wanted(l)...)
	return true
}

// P3.1 and P3.2 of all histories of up to three small events.
func TestAllSmallHistories(t *testing.T) {
	kinds := []string{"invoke", "ok", "fail", "info"}
	bodies := []string{"[append x 1]", "[append x 2]", "[read x]", "[read x (1)]", "[write x 1]", "[get x]", "[get x nil]", "[append x 1] [read x]", "[append x 1] [read x ()]"}
	var events []api.Event
	for _, k := range kinds {
		for _, p := range []string{" 0 ", " 1 "} {
			for _, b := range bodies {
				events = append(events, history(t, k+p+b)...)
			}
		}
	}
	well := 0
	for _, a := range events {
		for _, b := range events {
			if againstWords(t, []api.Event{a, b}) {
				well++
			}
			for _, c := range events {
				if f := fault([]api.Event{a, b}); f != nil {
					break
				}
				if againstWords(t, []api.Event{a, b, c}) {
					well++
				}
			}
		}
	}
	if well < 100 {
		t.Fatal("too few of them are well formed:", well)
	}
}

// someOps is one to three operations, reads without what they tell; a key is of one kind, but seldom of the other one.
func someOps(r *rand.Rand) []api.Op {
	var l []api.Op
	for range 1 + r.Intn(3) {
		o := api.Op{Kind: api.OpAppend + r.Intn(2), Key: string("xy"[r.Intn(2)])}
		if r.Intn(2) == 0 {
			o = api.Op{Kind: api.OpWrite + r.Intn(2), Key: string("pq"[r.Intn(2)])}
		}
		if r.Intn(40) == 0 {
			o.Key = string("xp"[r.Intn(2)])
		}
		if o.Kind == api.OpAppend || o.Kind == api.OpWrite {
			o.Value = r.Intn(3)
		}
		l = append(l, o)
	}
	return l
}

// answered is operations with what their reads tell.
func answered(r *rand.Rand, l []api.Op) []api.Op {
	l = append([]api.Op(nil), l...)
	for i := range l {
		switch l[i].Kind {
		case api.OpRead:
			l[i].Has, l[i].List = true, make([]int, r.Intn(3), 5)
		case api.OpGet:
			l[i].Has, l[i].Nil = true, r.Intn(2) == 0
		}
	}
	return l
}

// someHistory is one that is well formed but for seldom slips.
func someHistory(r *rand.Rand) []api.Event {
	var l []api.Event
	open := map[int][]api.Op{}
	for range r.Intn(14) {
		p := r.Intn(4)
		e := api.Event{Kind: api.EvInvoke, Proc: p, Ops: someOps(r)}
		if o, ok := open[p]; ok && r.Intn(30) > 0 {
			e.Kind, e.Ops = api.EvOk+r.Intn(3), o
			if e.Kind == api.EvOk && r.Intn(30) > 0 {
				e.Ops = answered(r, o)
			}
			delete(open, p)
		} else {
			open[p] = e.Ops
		}
		l = append(l, e)
	}
	return l
}

// P3.1 to P3.4 of many histories: by the chapter's words, by their beginnings, by what follows.
func TestManyHistories(t *testing.T) {
	r := rand.New(rand.NewSource(3))
	well := 0
	for range 20000 {
		l := someHistory(r)
		if !againstWords(t, l) {
			continue
		}
		well++
		for n := range l {
			if err := Check(l[:n]); err != nil {
				t.Fatalf("the first %d of %v: %v", n, l, err)
			}
		}
		whatFollows(t, l)
	}
	if well < 2000 {
		t.Fatal("too few of them are well formed:", well)
	}
}

// whatFollows is P3.3.
func whatFollows(t *testing.T, l []api.Event) {
	t.Helper()
	x, _ := Txns(l)
	n, last := 0, -1
	for _, e := range l {
		if e.Kind == api.EvInvoke {
			n++
		}
	}
	if len(x) != n {
		t.Fatalf("%d transactions of %d invocations", len(x), n)
	}
	for _, one := range x {
		if one.From <= last || l[one.From].Kind != api.EvInvoke || one.To != -1 && one.To <= one.From {
			t.Fatalf("%v in %v", one, x)
		}
		last = one.From
	}
}

// Rule 'Memory': what is handed in stays as it is, and no answer shares memory with it, or with itself.
func TestMemory(t *testing.T) {
	room := func() []api.Event {
		list := append(make([]int, 0, 8), 1, 2)
		read := append(make([]api.Op, 0, 4), api.Op{Kind: api.OpRead, Key: "x"})
		done := append(make([]api.Op, 0, 4), api.Op{Kind: api.OpRead, Key: "x", Has: true, List: list})
		l := make([]api.Event, 0, 8)
		for p := range 2 { // both processes are handed the same lists
			l = append(l, api.Event{Kind: api.EvInvoke, Proc: p, Ops: read}, api.Event{Kind: api.EvOk, Proc: p, Ops: done})
		}
		return append(l, api.Event{Kind: api.EvInvoke, Proc: 2, Ops: read}, api.Event{Kind: api.EvInvoke, Proc: 3, Ops: read})
	}
	l := room()
	x, err := Txns(l)
	y, err2 := Txns(l)
	if err != nil || err2 != nil || !reflect.DeepEqual(l, room()) {
		t.Fatal(x, err, l)
	}
	x[0].Ops[0].List[0] = 99
	_ = append(x[0].Ops[0].List, 98)
	_ = append(x[0].Ops, api.Op{Kind: 97})
	x[2].Ops[0].Key = "other"
	_ = append(x, api.Txn{Proc: 96})
	if !reflect.DeepEqual(l, room()) || l[:7][6].Ops != nil || l[0].Ops[:2][1].Kind != 0 || l[1].Ops[0].List[:3][2] != 0 {
		t.Fatal("an answer shares memory with what was handed in", l)
	}
	if x[1].Ops[0].List[0] != 1 || x[3].Ops[0].Key != "x" || y[0].Ops[0].List[0] != 1 || y[2].Ops[0].Key != "x" {
		t.Fatal("lists of answers share memory", x, y)
	}
	l[1].Ops[0].List[1] = 95
	if y[0].Ops[0].List[1] != 2 || x[1].Ops[0].List[1] != 2 {
		t.Fatal("what was handed in is kept", y)
	}
}
