package sim

import (
	"math/rand"
	"reflect"
	"slices"
	"testing"

	"assayer/api"
	"assayer/histtext"
	"assayer/pair"
)

// mix is what plans are made of.
type mix struct {
	kinds   []int // of operations
	clients int
	plans   int // in all
	ops     int // of a plan, at most
	spoil   int // one plan of so many fails or is lost
	values  int // from this on they repeat
}

// anything is any mix of a few plans.
func anything(r *rand.Rand) mix {
	return mix{
		kinds:   [][]int{{1, 2}, {3, 4}, {1, 2, 3, 4}}[r.Intn(3)],
		clients: 1 + r.Intn(8), plans: r.Intn(16), ops: 1 + r.Intn(6),
		spoil: []int{2, 6, 1000}[r.Intn(3)], values: []int{3, 1000}[r.Intn(2)],
	}
}

// plansOf is plans at random.
func plansOf(r *rand.Rand, m mix) [][]api.Plan {
	l := make([][]api.Plan, m.clients)
	value, room := 0, map[string]int{"x": api.MaxList, "y": api.MaxList}
	for range m.plans {
		var p api.Plan
		for range 1 + r.Intn(m.ops) {
			o := api.Op{Kind: m.kinds[r.Intn(len(m.kinds))], Key: []string{"x", "y"}[r.Intn(2)]}
			switch o.Kind {
			case api.OpWrite, api.OpGet:
				o.Key = []string{"p", "q"}[r.Intn(2)]
			case api.OpAppend:
				room[o.Key]--
				if room[o.Key] < 0 {
					o.Kind = api.OpRead
				}
			}
			if o.Kind == api.OpAppend || o.Kind == api.OpWrite {
				value++
				o.Value = value % m.values
			}
			p.Ops = append(p.Ops, o)
		}
		if r.Intn(m.spoil) == 0 {
			p.Abort, p.Lost = r.Intn(2) == 0, r.Intn(2) == 0
		}
		n := r.Intn(m.clients)
		l[n] = append(l[n], p)
	}
	return l
}

// picksOf is picks at random, for most of the turns or a few, of any size.
func picksOf(r *rand.Rand, m mix) []int {
	l := make([]int, r.Intn(m.plans*(m.ops+2)+2))
	for i := range l {
		l[i] = r.Intn(8)
		if r.Intn(8) == 0 {
			l[i] = int(r.Uint64())
		}
	}
	return l
}

// told1 is what a read tells behind all writes of a list.
func told1(o api.Op, writes []api.Op) api.Op {
	o.Has, o.Nil = true, o.Kind == api.OpGet
	for _, w := range writes {
		switch {
		case w.Key != o.Key:
		case o.Kind == api.OpRead:
			o.List = append(o.List, w.Value)
		default:
			o.Nil, o.Value = false, w.Value
		}
	}
	return o
}

// one is a client of the plain run.
type one struct {
	open        bool
	plan, op    int
	since       int // how many writes were done at its beginning
	told, write []api.Op
}

// plain is a run as the chapter says it, with a list of all writes so far in place of a store.
func plain(mode int, plans [][]api.Plan, picks []int) []api.Event {
	var events []api.Event
	var log []api.Op
	all := make([]one, len(plans))
	for turn := 0; ; turn++ {
		var ready []int
		for n := range all {
			if all[n].open || all[n].plan < len(plans[n]) {
				ready = append(ready, n)
			}
		}
		for n := range all {
			if mode == api.ModeSerial && all[n].open {
				ready = []int{n}
			}
		}
		if len(ready) == 0 {
			return events
		}
		place := uint64(0)
		if turn < len(picks) {
			place = uint64(picks[turn]) % uint64(len(ready))
		}
		n := ready[place]
		c, p := &all[n], plans[n][all[n].plan]
		switch {
		case !c.open:
			*c = one{open: true, plan: c.plan, since: len(log)}
			events = append(events, api.Event{Kind: api.EvInvoke, Proc: n, Ops: p.Ops})
		case c.op < len(p.Ops):
			o := p.Ops[c.op]
			c.op++
			writes := o.Kind == api.OpAppend || o.Kind == api.OpWrite
			switch {
			case writes && mode == api.ModeDirty:
				log = append(log, o)
			case writes:
				c.write = append(c.write, o)
			case mode == api.ModeDirty:
				o = told1(o, log)
			case mode == api.ModeSnapshot:
				o = told1(o, slices.Concat(log[:c.since], c.write))
			default:
				o = told1(o, slices.Concat(log, c.write))
			}
			c.told = append(c.told, o)
		default:
			late := mode == api.ModeSnapshot && slices.ContainsFunc(log[c.since:], func(o api.Op) bool {
				return slices.ContainsFunc(c.write, func(w api.Op) bool { return w.Key == o.Key })
			})
			e := api.Event{Kind: api.EvFail, Proc: n, Ops: p.Ops}
			c.open = false
			c.plan++
			if !p.Abort && !late {
				log = append(log, c.write...)
				e.Kind, e.Ops = api.EvOk, c.told
				if p.Lost {
					e.Kind, e.Ops = api.EvInfo, p.Ops
					c.plan = len(plans[n])
				}
			}
			events = append(events, e)
		}
	}
}

// P23.1 to P23.3: any run is as the chapter says it, well formed, and of ModeSerial each transaction's events stand side by side.
func TestAtRandom(t *testing.T) {
	r := rand.New(rand.NewSource(23))
	seen := [5][5]int{}
	for range 20000 {
		m := anything(r)
		mode, plans, picks := 1+r.Intn(4), plansOf(r, m), picksOf(r, m)
		l, why := Run(mode, plans, picks)
		if want := plain(mode, plans, picks); why != api.OK || !histtext.Same(l, want) {
			t.Fatalf("mode %d, plans %v, picks %v: error %d\n%swant\n%s", mode, plans, picks, why, histtext.Print(l), histtext.Print(want))
		}
		if err := pair.Check(l); err != nil {
			t.Fatal(l, err)
		}
		for i, e := range l {
			seen[mode][e.Kind]++
			if mode == api.ModeSerial && i%2 == 1 && (e.Kind == api.EvInvoke || e.Proc != l[i-1].Proc) {
				t.Fatal(l)
			}
		}
		if len(l)%2 != 0 {
			t.Fatal("a transaction without an end", l)
		}
	}
	for _, mode := range modes {
		for kind := api.EvInvoke; kind <= api.EvInfo; kind++ {
			if seen[mode][kind] < 1000 {
				t.Error("too few", mode, kind, seen)
			}
		}
	}
}

// P23.1, P23.2: runs as long as may be.
func TestLongRuns(t *testing.T) {
	r := rand.New(rand.NewSource(232))
	for range 60 {
		m := mix{kinds: []int{1, 2, 3, 4}, clients: 1 + r.Intn(8), plans: maxPlans, ops: api.MaxOps, spoil: 1000, values: 1000}
		for _, mode := range modes {
			plans, picks := plansOf(r, m), picksOf(r, m)
			l, why := Run(mode, plans, picks)
			if why != api.OK || !histtext.Same(l, plain(mode, plans, picks)) || pair.Check(l) != nil {
				t.Fatal(mode, why, histtext.Print(l))
			}
		}
	}
}

// copyOf is the same plans, with all that stands in spare room, too.
func copyOf(l [][]api.Plan) [][]api.Plan {
	c := make([][]api.Plan, len(l), cap(l))
	for i := range l[:cap(l)] {
		plans := l[:cap(l)][i]
		c[:cap(l)][i] = slices.Clone(plans[:cap(plans)])[:len(plans)]
		for k, p := range plans[:cap(plans)] {
			ops := slices.Clone(p.Ops[:cap(p.Ops)])
			for n, o := range ops {
				ops[n].List = slices.Clone(o.List[:cap(o.List)])[:len(o.List)]
			}
			c[:cap(l)][i][:cap(plans)][k].Ops = ops[:len(p.Ops)]
		}
	}
	return c
}

// roomy is plans with something in the spare room of each list.
func roomy() [][]api.Plan {
	ops := plan("[append x 1] [read x] [write p 2] [get p] [read y] [read y] [get q]").Ops
	ops[0].List, ops[1].List, ops[3].List = []int{7}[:0], []int{8, 9}[:0], []int{5}[:0]
	l := []api.Plan{{Ops: ops[:4]}, {Ops: ops[1:2:3]}, {Ops: ops[3:4]}, {Ops: ops[:1], Lost: true}, {Ops: ops[:1:2]}, {Abort: true}}
	return [][]api.Plan{l[1:4], l[:2], l[:5], l[2:3:3], nil}[:4]
}

// Memory: what is handed in stays as it was, spare room too; what is answered is nobody else's.
func TestMemory(t *testing.T) {
	for _, mode := range modes {
		plans, picks := roomy(), []int{3, 1, 4, 1, -5, 9, 2, 6, 5, 3}[:7]
		before := copyOf(plans)
		l, why := Run(mode, plans, picks)
		again, _ := Run(mode, plans, picks)
		if why != api.OK || len(l) == 0 || !histtext.Same(l, again) {
			t.Fatal(mode, l, why)
		}
		if !reflect.DeepEqual(copyOf(plans), before) || !slices.Equal(picks[:10], []int{3, 1, 4, 1, -5, 9, 2, 6, 5, 3}) {
			t.Fatal("changed", mode, plans)
		}
		for i := range l {
			scribble(l[i])
			for k := range again {
				if k > i && !histtext.Same(l[k:k+1], again[k:k+1]) {
					t.Fatal("shared", mode, i, k)
				}
			}
		}
		if !reflect.DeepEqual(copyOf(plans), before) {
			t.Fatal("shared with the plans", mode)
		}
		if last, _ := Run(mode, plans, picks); !histtext.Same(last, again) {
			t.Fatal("kept", mode)
		}
	}
}

// scribble writes over all that an event has, spare room too; each operation's list is looked at ahead of that, so that one which shares with a list of the same event is told by its numbers.
func scribble(e api.Event) {
	ops := e.Ops[:cap(e.Ops)]
	for n, o := range ops {
		list := o.List[:cap(o.List)]
		for i := range list {
			list[i] = -n - 1
		}
	}
	for n, o := range ops {
		for _, v := range o.List[:cap(o.List)] {
			if v != -n-1 {
				panic("two lists of one event share memory")
			}
		}
		ops[n] = api.Op{Kind: 99}
	}
}
