package witness

import (
	"math"
	"slices"
	"testing"

	"assayer/api"
)

func app(key string, value int) api.Op { return api.Op{Kind: api.OpAppend, Key: key, Value: value} }
func put(key string, value int) api.Op { return api.Op{Kind: api.OpWrite, Key: key, Value: value} }
func saw(key string, l ...int) api.Op {
	return api.Op{Kind: api.OpRead, Key: key, List: l, Has: true}
}
func got(key string, value int) api.Op {
	return api.Op{Kind: api.OpGet, Key: key, Value: value, Has: true}
}
func unset(key string) api.Op { return api.Op{Kind: api.OpGet, Key: key, Has: true, Nil: true} }

func ok(l ...api.Op) api.Txn      { return api.Txn{State: api.TxOk, Ops: l} }
func failed(l ...api.Op) api.Txn  { return api.Txn{State: api.TxFail, Ops: l} }
func unknown(l ...api.Op) api.Txn { return api.Txn{State: api.TxInfo, Ops: l} }

// at is a transaction in its time.
func at(from, to int, x api.Txn) api.Txn {
	x.From, x.To = from, to
	return x
}

func ww(from, to int, key string, a, b int) api.Why {
	return api.Why{From: from, To: to, Label: api.LabelWW, Key: key, A: a, B: b}
}
func wr(from, to int, key string, a int) api.Why {
	return api.Why{From: from, To: to, Label: api.LabelWR, Key: key, A: a}
}
func rw(from, to int, key string, a, b int) api.Why {
	return api.Why{From: from, To: to, Label: api.LabelRW, Key: key, A: a, B: b}
}
func first(from, to int, key string, b int) api.Why {
	return api.Why{From: from, To: to, Label: api.LabelRW, Key: key, B: b, Nil: true}
}
func rt(from, to int) api.Why { return api.Why{From: from, To: to, Label: api.LabelRT} }
func maybe(w api.Why) api.Why {
	w.Cond = true
	return w
}

// many is transactions with dependencies of each sort, and all of these.
func many() ([]api.Txn, []api.Why) {
	l := []api.Txn{
		at(0, 1, ok(app("x", 1), put("p", 1))),
		at(2, 4, ok(saw("x", 1), got("p", 1), put("p", 2))),
		at(5, 6, ok(app("x", 2), saw("x", 1, 2))),
		at(3, 7, unknown(put("p", 3), app("x", 3))),
		at(8, -1, ok(got("p", 1))),
		at(3, 9, ok(saw("x"), unset("p"))),
	}
	return l, []api.Why{
		ww(0, 2, "x", 1, 2), wr(0, 1, "x", 1), rw(1, 2, "x", 1, 2), first(5, 0, "x", 1),
		maybe(ww(0, 1, "p", 1, 2)), wr(0, 1, "p", 1), wr(0, 4, "p", 1), maybe(rw(4, 1, "p", 1, 2)), first(5, 0, "p", 1), first(5, 1, "p", 2),
		rt(0, 1), rt(0, 2), rt(0, 4), rt(0, 5), rt(1, 2), rt(1, 4), rt(2, 4),
	}
}

// P19.1: of all that might be, just the dependencies that there are.
func TestHolds(t *testing.T) {
	l, all := many()
	found := 0
	flags := []bool{false, true}
	try := func(w api.Why) {
		want := slices.Contains(all, w)
		if want {
			found++
		}
		if Holds(l, w) != want {
			t.Fatal(w, want)
		}
	}
	for from := -1; from <= len(l); from++ {
		for to := -1; to <= len(l); to++ {
			for _, label := range []int{-8, 0, 1, 2, 3, 4, 8, 9, 12, 16} {
				for _, key := range []string{"", "p", "x", "z"} {
					for n := range 64 {
						try(api.Why{From: from, To: to, Label: label, Key: key, A: n % 4, B: n / 4 % 4, Nil: flags[n/16%2], Cond: flags[n/32]})
					}
				}
			}
		}
	}
	if found != len(all) {
		t.Fatal(found)
	}
}

// P19.1: what forces nothing.
func TestHoldsNot(t *testing.T) {
	time := func(a, b api.Txn) []api.Txn { return []api.Txn{at(0, 1, a), at(2, 3, b)} }
	for name, c := range map[string]struct {
		l    []api.Txn
		w    api.Why
		want bool
	}{
		"a list":              {[]api.Txn{ok(app("x", 1)), ok(saw("x", 1))}, wr(0, 1, "x", 1), true},
		"not unique":          {[]api.Txn{ok(app("x", 1)), ok(saw("x", 1)), ok(app("y", 1)), ok(app("y", 1))}, wr(0, 1, "x", 1), false},
		"a fork":              {[]api.Txn{ok(app("x", 1)), ok(saw("x", 1)), ok(app("x", 2)), ok(saw("x", 2))}, wr(0, 1, "x", 1), false},
		"a reader that fails": {[]api.Txn{ok(app("x", 1)), failed(saw("x", 1))}, wr(0, 1, "x", 1), false},
		"a register":          {[]api.Txn{ok(put("x", 1)), ok(got("x", 1))}, wr(0, 1, "x", 1), true},
		"of unknown end":      {[]api.Txn{unknown(put("x", 1)), ok(got("x", 1))}, wr(0, 1, "x", 1), true},
		"aborted":             {[]api.Txn{failed(put("x", 1)), ok(got("x", 1))}, wr(0, 1, "x", 1), false},
		"the empty key":       {[]api.Txn{ok(put("", 1)), ok(got("", 1))}, wr(0, 1, "", 1), true},
		"a key of two kinds":  {[]api.Txn{ok(put("x", 1)), ok(got("x", 1)), ok(app("x", 2)), ok(saw("x", 2))}, wr(2, 3, "x", 2), false},
		"time":                {time(ok(), ok()), rt(0, 1), true},
		"time, turned round":  {time(ok(), ok()), rt(1, 0), false},
		"time, failed ahead":  {time(failed(), ok()), rt(0, 1), false},
		"time, failed behind": {time(ok(), failed()), rt(0, 1), false},
		"time, unknown":       {time(ok(), unknown()), rt(0, 1), false},
		"time, no state":      {time(ok(), api.Txn{State: 4}), rt(0, 1), false},
		"time, at once":       {[]api.Txn{at(0, 2, ok()), at(2, 3, ok())}, rt(0, 1), false},
		"time, without an end": {[]api.Txn{at(-5, -4, ok()), at(2, 3, ok())}, rt(0, 1),
			false},
		"time, with a key":  {time(ok(app("x", 1)), ok(saw("x", 1))), api.Why{From: 0, To: 1, Label: api.LabelRT, Key: "x"}, false},
		"time, another bit": {time(ok(), ok()), api.Why{From: 0, To: 1, Label: api.LabelRT | api.LabelWW}, false},
		"time, on itself":   {[]api.Txn{at(0, 3, ok())}, rt(0, 0), false},
		"time, turned round itself, as Before says it": {[]api.Txn{at(3, 0, ok())}, rt(0, 0), true},
		"far":        {time(ok(), ok()), rt(math.MinInt, math.MaxInt), false},
		"far, ww":    {time(ok(), ok()), ww(math.MinInt, math.MaxInt, "x", math.MinInt, math.MaxInt), false},
		"no places":  {nil, rt(0, 0), false},
		"no keys":    {nil, ww(0, 0, "", 0, 0), false},
		"zero":       {nil, api.Why{}, false},
		"zero of ok": {[]api.Txn{ok(app("", 0)), ok(saw("", 0))}, api.Why{}, false},
	} {
		if Holds(c.l, c.w) != c.want {
			t.Error(name)
		}
	}
}
