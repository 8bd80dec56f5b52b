package verdict

import (
	"math/rand"
	"slices"

	"assayer/api"
	"assayer/model"
	"assayer/sim"
)

// How a store does transactions.
const (
	atOnce   = iota // each as a whole, at its end
	snapshot        // each sees what was committed at its beginning
	live            // each operation at its time, seen by all
	late            // as atOnce, but what is written comes in at some later time
	ways
)

// mix is what histories are made of.
type mix struct {
	kinds   []int // of operations
	ends    []int // kinds of events
	events  int   // how many, about
	values  int   // from this on they repeat
	spoil   int   // one transaction of so many reads otherwise
	readAll bool  // in the end somebody reads all
}

// client is one that does a transaction at a time.
type client struct {
	asked, told []api.Op
	view        *model.State
	gone        bool
}

// store makes a history at random.
type store struct {
	*rand.Rand
	mix
	way     int
	state   *model.State
	clients []client
	pending [][]api.Op // what is still to come in
	events  []api.Event
	value   int
}

// history is one of a store that does transactions in one of the ways, or of layer 23.
func history(r *rand.Rand, m mix) []api.Event {
	s := &store{Rand: r, mix: m, way: r.Intn(ways), state: model.New(), clients: make([]client, 2+r.Intn(3))}
	if r.Intn(4) == 0 {
		return s.simulated()
	}
	for range 12 * m.events {
		if len(s.events) >= m.events {
			break
		}
		s.step(r.Intn(len(s.clients)), true)
	}
	for p := range s.clients {
		for r.Intn(8) > 0 && s.clients[p].asked != nil {
			s.step(p, false)
		}
	}
	for len(s.pending) > 0 {
		s.comeIn()
	}
	if m.readAll {
		s.finish()
	}
	return s.events
}

// simulated is a history of layer 23's store, in any mode; in the end the last client reads all, if it is so asked, and not picked earlier.
func (s *store) simulated() []api.Event {
	plans := make([][]api.Plan, len(s.clients)+1)
	for range s.mix.events / 2 {
		end, p := s.ends[s.Intn(len(s.ends))], s.Intn(len(s.clients))
		plans[p] = append(plans[p], api.Plan{Ops: s.askSome(), Abort: end == api.EvFail, Lost: end == api.EvInfo})
	}
	if s.readAll {
		plans[len(s.clients)] = []api.Plan{{Ops: readsOfAll()}}
	}
	picks := make([]int, 3*s.mix.events)
	for i := range picks {
		picks[i] = s.Intn(len(s.clients))
	}
	l, why := sim.Run(1+s.Intn(4), plans, picks[:s.Intn(len(picks)+1)])
	if why != api.OK {
		panic(why)
	}
	for _, e := range l {
		if e.Kind == api.EvOk && s.Intn(s.spoil) == 0 {
			s.change(&e.Ops[s.Intn(len(e.Ops))])
		}
	}
	return l
}

// finish lets one more client read all.
func (s *store) finish() {
	p := len(s.clients)
	s.clients = append(s.clients, client{})
	s.begin(p, readsOfAll())
	for s.clients[p].asked != nil {
		s.step(p, false)
	}
}

// readsOfAll is a read of each thing.
func readsOfAll() []api.Op {
	var asked []api.Op
	for _, key := range []string{"x", "y", "p", "q"} {
		kind := api.OpRead
		if key < "x" {
			kind = api.OpGet
		}
		asked = append(asked, api.Op{Kind: kind, Key: key})
	}
	return asked
}

// comeIn puts something into the store that was to come later; sometimes the last operation first.
func (s *store) comeIn() {
	at := s.Intn(len(s.pending))
	if s.Intn(4) == 0 {
		s.pending[at] = slices.Clone(s.pending[at])
		slices.Reverse(s.pending[at])
	}
	s.state.Apply(s.pending[at], true)
	s.pending = append(s.pending[:at], s.pending[at+1:]...)
}

// step lets a client do one thing.
func (s *store) step(p int, more bool) {
	c := &s.clients[p]
	if len(s.pending) > 0 && s.Intn(4) == 0 {
		s.comeIn()
	}
	switch {
	case c.gone || c.asked == nil && !more:
	case c.asked == nil:
		s.begin(p, s.askSome())
	case len(c.told) < len(c.asked) && (s.way == live || s.way == snapshot):
		s.do(c)
	default:
		s.end(p)
	}
}

// askSome is operations at random.
func (s *store) askSome() []api.Op {
	var asked []api.Op
	for range 1 + s.Intn(4) {
		asked = append(asked, s.ask())
	}
	return asked
}

// ask is an operation at random.
func (s *store) ask() api.Op {
	kind := s.kinds[s.Intn(len(s.kinds))]
	o := api.Op{Kind: kind, Key: []string{"x", "y"}[s.Intn(2)]}
	if kind == api.OpWrite || kind == api.OpGet {
		o.Key = []string{"p", "q"}[s.Intn(2)]
	}
	if kind == api.OpWrite || kind == api.OpAppend {
		s.value++
		o.Value = s.value % s.values
	}
	return o
}

func (s *store) begin(p int, asked []api.Op) {
	c := &s.clients[p]
	c.asked, c.told, c.view = asked, nil, s.state
	if s.way == snapshot {
		c.view = s.state.Copy()
	}
	s.events = append(s.events, api.Event{Kind: api.EvInvoke, Proc: p, Ops: asked})
}

// do does a client's next operation, and what it reads is told.
func (s *store) do(c *client) {
	o := c.asked[len(c.told)]
	switch o.Kind {
	case api.OpRead:
		o.Has, o.List = true, c.view.List(o.Key)
	case api.OpGet:
		value, has := c.view.Value(o.Key)
		o.Has, o.Nil, o.Value = true, !has, value
	default:
		c.view.Apply([]api.Op{o}, true)
	}
	c.told = append(c.told, o)
}

// end tells how a transaction ended. What failed is not done, but where each operation was done at its time; of unknown ends some are.
func (s *store) end(p int) {
	c := &s.clients[p]
	kind := s.ends[s.Intn(len(s.ends))]
	commits := kind == api.EvOk || kind == api.EvInfo && s.Intn(2) == 0
	if s.way == atOnce || s.way == late {
		c.view = s.state.Copy()
		for len(c.told) < len(c.asked) {
			s.do(c)
		}
	}
	switch {
	case s.way == late && commits:
		s.pending = append(s.pending, c.asked)
	case s.way != live && commits:
		s.state.Apply(c.asked, true)
	}
	ops := c.asked
	if kind == api.EvOk {
		ops = c.told
		if s.Intn(s.spoil) == 0 {
			s.change(&ops[s.Intn(len(ops))])
		}
	}
	s.events = append(s.events, api.Event{Kind: kind, Proc: p, Ops: ops})
	*c = client{gone: kind == api.EvInfo}
}

// change makes a read tell something else.
func (s *store) change(o *api.Op) {
	switch {
	case o.Kind == api.OpGet && s.Intn(3) == 0:
		o.Nil, o.Value = true, 0
	case o.Kind == api.OpGet:
		o.Nil, o.Value = false, 1+s.Intn(s.value+2)
	case o.Kind == api.OpRead && s.Intn(3) == 0:
		o.List = append(o.List, 1+s.Intn(s.value+2))
	case o.Kind == api.OpRead && len(o.List) > 1 && s.Intn(3) == 0:
		a, b := s.Intn(len(o.List)), s.Intn(len(o.List))
		o.List[a], o.List[b] = o.List[b], o.List[a]
	case o.Kind == api.OpRead:
		o.List = o.List[:s.Intn(len(o.List)+1)]
	}
}
