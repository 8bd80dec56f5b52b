package sim

import (
	"assayer/api"
	"assayer/ops"
)

// run is how far the clients have come.
type run struct {
	store   *store
	begin   func(*store) access // of the mode
	clients []client
	picks   []int // that are left
	events  []api.Event
}

// client is one that does its plans.
type client struct {
	plans []api.Plan // that are left, the open one first
	open  access     // nil, if no transaction is open
	done  []api.Op   // of the open one, with what was read
}

// ready is the numbers of the clients that can go on.
func (r *run) ready() []int {
	var all []int
	for n, c := range r.clients {
		if c.open != nil && c.open.alone() {
			return []int{n}
		}
		if len(c.plans) > 0 {
			all = append(all, n)
		}
	}
	return all
}

// pick takes the next of the picks, as a place among so many.
func (r *run) pick(many int) int {
	if len(r.picks) == 0 {
		return 0
	}
	next := uint64(r.picks[0])
	r.picks = r.picks[1:]
	return int(next % uint64(many))
}

// turn lets a client go on by one thing.
func (r *run) turn(n int) {
	c := &r.clients[n]
	asked := c.plans[0].Ops
	switch {
	case c.open == nil:
		c.open = r.begin(r.store)
		r.tell(api.EvInvoke, n, asked)
	case len(c.done) < len(asked):
		c.done = append(c.done, c.do(asked[len(c.done)]))
	default:
		r.end(n)
	}
}

// do does an operation of the open transaction: the same, with what was read.
func (c *client) do(o api.Op) api.Op {
	if ops.Writes(o.Kind) {
		c.open.write(o)
		return o
	}
	return c.open.read(o)
}

// end ends the open transaction of a client, and tells how.
func (r *run) end(n int) {
	c := &r.clients[n]
	plan, left := c.plans[0], c.plans[1:]
	switch {
	case plan.Abort || !c.open.commit():
		r.tell(api.EvFail, n, plan.Ops)
	case plan.Lost:
		r.tell(api.EvInfo, n, plan.Ops)
		left = nil
	default:
		r.tell(api.EvOk, n, c.done)
	}
	*c = client{plans: left}
}

// tell puts an event behind the others, in memory of its own.
func (r *run) tell(kind, n int, l []api.Op) {
	r.events = append(r.events, api.Event{Kind: kind, Proc: n, Ops: ops.Copy(l)})
}
