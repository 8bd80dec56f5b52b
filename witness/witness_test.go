package witness

import (
	"math"
	"reflect"
	"slices"
	"strconv"
	"testing"

	"assayer/api"
)

// shown is an anomaly of transactions that show no other one of its kind.
type shown struct {
	l []api.Txn
	a api.Anomaly
}

// plain is one of each kind but cycles, of lists, and of registers where they have it.
func plain() map[string]shown {
	list := func(kind, txn, op, other, value, level int) api.Anomaly {
		return api.Anomaly{Kind: kind, Txn: txn, Op: op, Other: other, Key: "x", Value: value, Level: level}
	}
	return map[string]shown{
		"internal":            {[]api.Txn{ok(), ok(app("x", 1), saw("x"))}, api.Anomaly{Kind: api.AnInternal, Txn: 1, Op: 1, Level: api.LevelPL1}},
		"internal, the first": {[]api.Txn{ok(got("x", 1), got("x", 2), got("x", 3))}, api.Anomaly{Kind: api.AnInternal, Op: 1, Level: api.LevelPL1}},
		"garbage":             {[]api.Txn{ok(app("x", 1)), ok(saw("z"), saw("x", 1, 5))}, list(api.AnGarbage, 1, 1, 0, 5, api.LevelPL1)},
		"garbage got":         {[]api.Txn{ok(put("x", 1)), ok(got("z", 1), got("x", 5)), ok(put("z", 1))}, list(api.AnGarbage, 1, 1, 0, 5, api.LevelPL1)},
		"twice":               {[]api.Txn{ok(app("x", 1)), ok(saw("z"), saw("x", 1, 1))}, list(api.AnTwice, 1, 1, 0, 1, api.LevelPL1)},
		"fork":                {[]api.Txn{ok(), ok(app("x", 1), saw("x", 1)), ok(app("x", 2), saw("x", 2))}, list(api.AnFork, 2, 1, 1, 0, api.LevelPL1)},
		"aborted":             {[]api.Txn{ok(), failed(app("x", 1)), ok(saw("x", 1))}, list(api.AnAborted, 2, 0, 1, 1, api.LevelPL2)},
		"aborted, got":        {[]api.Txn{ok(), failed(put("x", 1)), ok(got("x", 1))}, list(api.AnAborted, 2, 0, 1, 1, api.LevelPL2)},
		"middle":              {[]api.Txn{ok(), ok(app("x", 1), app("x", 2)), ok(saw("x", 1))}, list(api.AnMiddle, 2, 0, 1, 1, api.LevelPL2)},
		"middle, got":         {[]api.Txn{ok(), ok(put("x", 1), put("x", 2)), ok(got("x", 1))}, list(api.AnMiddle, 2, 0, 1, 1, api.LevelPL2)},
		"order":               {[]api.Txn{ok(), ok(app("x", 1), app("x", 2)), ok(saw("x", 2, 1), app("x", 3)), ok(saw("x", 2, 1, 3))}, list(api.AnOrder, 1, 0, 0, 1, api.LevelPL3)},
		"order, got":          {[]api.Txn{ok(got("x", 2), put("x", 1)), ok(got("x", 1), put("x", 2))}, list(api.AnOrder, 0, 0, 0, 0, api.LevelPL3)},
	}
}

// round is cycles of each class, each with its level.
func round() map[string]shown {
	cross := func(a, b api.Txn) []api.Txn { return []api.Txn{a, b, ok(saw("x", 1, 2), saw("y", 2, 1))} }
	both := []api.Why{ww(0, 1, "x", 1, 2), ww(1, 0, "y", 2, 1)}
	over := []api.Txn{ok(app("x", 1)), ok(saw("x", 1), app("x", 3)), ok(app("x", 2)), ok(saw("x", 1, 2, 3))}
	skew := []api.Txn{ok(app("x", 1), saw("y")), ok(app("y", 2), saw("x")), ok(saw("x", 1), saw("y", 2))}
	late := []api.Txn{at(0, 1, ok(app("x", 1))), at(2, 3, ok()), at(4, 5, ok(saw("x"))), at(0, 5, ok(saw("x", 1)))}
	cond := []api.Txn{ok(put("p", 1), app("y", 1)), ok(got("p", 1), put("p", 2), app("y", 2)), ok(saw("y", 2, 1))}
	cycle := func(kind, level int, real bool, l ...api.Why) api.Anomaly {
		return api.Anomaly{Kind: kind, Cycle: l, Real: real, Level: level}
	}
	return map[string]shown{
		"G0":                     {cross(ok(app("x", 1), app("y", 1)), ok(app("x", 2), app("y", 2))), cycle(api.AnG0, api.LevelPL1, false, both...)},
		"G0, from its other end": {cross(ok(app("x", 1), app("y", 1)), ok(app("x", 2), app("y", 2))), cycle(api.AnG0, api.LevelPL1, false, both[1], both[0])},
		"G0 of unknown end":      {cross(ok(app("x", 1), app("y", 1)), unknown(app("x", 2), app("y", 2))), cycle(api.AnG0, api.LevelPL2, false, both...)},
		"G0 with a condition":    {cond, cycle(api.AnG0, api.LevelPL2, false, maybe(ww(0, 1, "p", 1, 2)), ww(1, 0, "y", 2, 1))},
		"G1c":                    {[]api.Txn{ok(app("x", 1), saw("y", 2)), ok(app("y", 2), saw("x", 1))}, cycle(api.AnG1c, api.LevelPL2, false, wr(0, 1, "x", 1), wr(1, 0, "y", 2))},
		"G1c with a condition":   {cond, cycle(api.AnG1c, api.LevelPL2, false, wr(0, 1, "p", 1), ww(1, 0, "y", 2, 1))},
		"G-single":               {over, cycle(api.AnSingle, api.LevelPL2P, false, rw(1, 2, "x", 1, 2), ww(2, 1, "x", 2, 3))},
		"G2 of a G-single":       {over, cycle(api.AnG2, api.LevelPL3, false, rw(1, 2, "x", 1, 2), ww(2, 1, "x", 2, 3))},
		"G2":                     {skew, cycle(api.AnG2, api.LevelPL3, false, first(0, 1, "y", 2), first(1, 0, "x", 1))},
		"in time":                {late, cycle(api.AnSingle, api.LevelStrict, true, first(2, 0, "x", 1), rt(0, 1), rt(1, 2))},
		"in time, a third left":  {late, cycle(api.AnSingle, api.LevelStrict, true, first(2, 0, "x", 1), rt(0, 2))},
		"in time, G2":            {late, cycle(api.AnG2, api.LevelStrict, true, rt(0, 2), first(2, 0, "x", 1))},
	}
}

// P19.2: each kind is shown, and with any field otherwise it is not.
func TestCheck(t *testing.T) {
	for _, all := range []map[string]shown{plain(), round()} {
		for name, c := range all {
			if !Check(c.l, c.a) {
				t.Errorf("%s: not shown", name)
			}
			for what, a := range otherwise(c.a) {
				if Check(c.l, a) {
					t.Errorf("%s, another %s: %v is shown", name, what, a)
				}
			}
		}
	}
}

// otherwise is an anomaly with one field other than it is.
func otherwise(a api.Anomaly) map[string]api.Anomaly {
	m := map[string]api.Anomaly{}
	change := func(what string, by int, f func(*api.Anomaly)) {
		b := a
		f(&b)
		m[what+" "+strconv.Itoa(by)] = b
	}
	for _, by := range []int{-2, -1, 1, 2, math.MaxInt, math.MinInt} {
		change("transaction", by, func(b *api.Anomaly) { b.Txn += by })
		change("operation", by, func(b *api.Anomaly) { b.Op += by })
		change("other", by, func(b *api.Anomaly) { b.Other += by })
		change("value", by, func(b *api.Anomaly) { b.Value += by })
	}
	for level := -1; level < 8; level++ {
		if level != a.Level {
			change("level", level, func(b *api.Anomaly) { b.Level = level })
		}
	}
	for i, key := range []string{"", "x", "y", "z", "p"} {
		if key != a.Key {
			change("key", i, func(b *api.Anomaly) { b.Key = key })
		}
	}
	change("time", 0, func(b *api.Anomaly) { b.Real = !b.Real })
	change("time, with its level", 0, func(b *api.Anomaly) { b.Real, b.Level = !b.Real, api.LevelStrict })
	change("dependency", 0, func(b *api.Anomaly) { b.Cycle = append(slices.Clone(b.Cycle), ww(0, 1, "x", 1, 2)) })
	if len(a.Cycle) > 0 {
		change("cycle, none", 0, func(b *api.Anomaly) { b.Cycle = nil })
		change("cycle, twice", 0, func(b *api.Anomaly) { b.Cycle = append(slices.Clone(b.Cycle), b.Cycle...) })
	}
	return m
}

// P19.2: a cycle with a dependency taken out, or other than it is, is none.
func TestCycleSpoilt(t *testing.T) {
	for name, c := range round() {
		for i, w := range c.a.Cycle {
			a := c.a
			a.Cycle = slices.Delete(slices.Clone(c.a.Cycle), i, i+1)
			if Check(c.l, a) {
				t.Errorf("%s: without %v it is shown", name, w)
			}
			for _, f := range []func(*api.Why){
				func(w *api.Why) { w.From += 7 }, func(w *api.Why) { w.To += 7 }, func(w *api.Why) { w.From, w.To = w.To, w.From },
				func(w *api.Why) { w.Label ^= 3 }, func(w *api.Why) { w.Label |= 15 }, func(w *api.Why) { w.Key += "z" },
				func(w *api.Why) { w.A++ }, func(w *api.Why) { w.B++ }, func(w *api.Why) { w.Nil = !w.Nil }, func(w *api.Why) { w.Cond = !w.Cond },
			} {
				for level := range 6 {
					a.Cycle, a.Level = slices.Clone(c.a.Cycle), level
					f(&a.Cycle[i])
					if Check(c.l, a) {
						t.Errorf("%s: with %v it is shown", name, a.Cycle[i])
					}
				}
			}
		}
	}
}

// P19.2: an anomaly of one kind is none of another; but a cycle may be of two classes, each with its level.
func TestOtherKinds(t *testing.T) {
	kinds := []int{math.MinInt, -1, 0, 12, 13, math.MaxInt}
	for kind := range 12 {
		kinds = append(kinds, kind)
	}
	for _, all := range []map[string]shown{plain(), round()} {
		for name, c := range all {
			for _, kind := range kinds {
				for level := range 6 {
					a := c.a
					a.Kind, a.Level = kind, level
					twoClasses := c.a.Kind == api.AnSingle && kind == api.AnG2 && (level == api.LevelStrict) == c.a.Real && level >= api.LevelPL3
					single := name == "G2 of a G-single" && kind == api.AnSingle && level == api.LevelPL2P || name == "in time, G2" && kind == api.AnSingle && level == api.LevelStrict
					want := kind == c.a.Kind && level == c.a.Level || twoClasses || single
					if Check(c.l, a) != want {
						t.Errorf("%s: as kind %d of level %d: %v", name, kind, level, !want)
					}
				}
			}
		}
	}
}

// P19.2: of a transaction that is not ok nothing is shown; of one without a fault neither, and -1 is no operation.
func TestInternalNot(t *testing.T) {
	ops := []api.Op{app("x", 1), saw("x")}
	for _, state := range []int{api.TxFail, api.TxInfo, 0, 4, -1} {
		if Check([]api.Txn{{State: state, Ops: ops}}, api.Anomaly{Kind: api.AnInternal, Op: 1, Level: api.LevelPL1}) {
			t.Error(state)
		}
	}
	for op := -2; op < 3; op++ {
		if Check([]api.Txn{ok(app("x", 1), saw("x", 1))}, api.Anomaly{Kind: api.AnInternal, Op: op, Level: api.LevelPL1}) {
			t.Error(op)
		}
	}
	if Check(nil, api.Anomaly{Kind: api.AnInternal, Level: api.LevelPL1}) {
		t.Error("of no transactions")
	}
}

// Nil and empty lists mean the same: an empty cycle is none.
func TestEmptyCycle(t *testing.T) {
	for name, c := range plain() {
		c.a.Cycle = []api.Why{}
		if !Check(c.l, c.a) {
			t.Error(name)
		}
	}
	for kind := range 13 {
		for level := range 6 {
			if Check(nil, api.Anomaly{Kind: kind, Level: level}) || Check([]api.Txn{}, api.Anomaly{Kind: kind, Level: level, Cycle: []api.Why{}}) {
				t.Error(kind, level)
			}
		}
	}
}

// P19.2: one that is told once of several is shown as well.
func TestSeveral(t *testing.T) {
	l := []api.Txn{failed(app("x", 1)), ok(saw("x", 1), saw("x", 1, 1)), ok(saw("x", 7))}
	for _, a := range []api.Anomaly{
		{Kind: api.AnTwice, Txn: 1, Op: 1, Value: 1, Level: api.LevelPL1}, {Kind: api.AnGarbage, Txn: 2, Value: 7, Level: api.LevelPL1},
		{Kind: api.AnAborted, Txn: 1, Value: 1, Level: api.LevelPL2}, {Kind: api.AnAborted, Txn: 1, Op: 1, Value: 1, Level: api.LevelPL2},
		{Kind: api.AnFork, Txn: 2, Other: 1, Level: api.LevelPL1},
	} {
		a.Key = "x"
		if !Check(l, a) {
			t.Error(a)
		}
	}
}

// Memory: what is handed in is as it was, the room behind it, too.
func TestMemory(t *testing.T) {
	for _, all := range []func() map[string]shown{plain, round} {
		was := all()
		for name, c := range all() {
			l := append(slices.Clone(c.l), ok(app("q", 8)))
			c.a.Cycle = append(slices.Clone(c.a.Cycle), rt(8, 9))
			a := c.a
			a.Cycle = a.Cycle[:len(a.Cycle)-1]
			if !Check(l[:len(c.l)], a) {
				t.Error(name)
			}
			if !reflect.DeepEqual(l[:len(c.l)], was[name].l) || !reflect.DeepEqual(l[len(c.l)], ok(app("q", 8))) {
				t.Error(name, l)
			}
			if last := len(c.a.Cycle) - 1; !slices.Equal(c.a.Cycle[:last], was[name].a.Cycle) || c.a.Cycle[last] != rt(8, 9) {
				t.Error(name, c.a)
			}
		}
	}
}

// Ends: a cycle through more transactions than a graph has, of one key and of time.
func TestLong(t *testing.T) {
	const n = 20000
	var l []api.Txn
	var cycle []api.Why
	var values []int
	for i := range n {
		l = append(l, ok(app("x", i)))
		values = append(values, i)
		if i > 0 {
			cycle = append(cycle, ww(i-1, i, "x", i-1, i))
		}
	}
	l[n-1].Ops = append(l[n-1].Ops, app("y", 1))
	l[0].Ops = append(l[0].Ops, app("y", 2))
	l = append(l, ok(saw("x", values...), saw("y", 1, 2)))
	a := api.Anomaly{Kind: api.AnG0, Cycle: append(cycle, ww(n-1, 0, "y", 1, 2)), Level: api.LevelPL1}
	if !Check(l, a) {
		t.Error("not shown")
	}
	a.Cycle[n/2].B++
	if Check(l, a) {
		t.Error("shown")
	}
}
