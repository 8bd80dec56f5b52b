package search

import (
	"slices"

	"assayer/api"
	"assayer/model"
	"assayer/ops"
)

// thing is a list or a register: its kind (ops.Thing) and its key.
type thing struct {
	kind int
	key  string
}

// thingOf is what an operation is of.
func thingOf(o api.Op) thing { return thing{ops.Thing(o.Kind), o.Key} }

// tells tells whether an operation is a read that says what it read.
func tells(o api.Op) bool { return o.Has && (o.Kind == api.OpRead || o.Kind == api.OpGet) }

// reading is a read of a transaction.
type reading struct {
	txn int
	op  api.Op
}

// part is what a transaction does to one thing.
type part struct {
	number, thing int
	ops           []api.Op
	blind         bool
	reads, writes bool // what is blind reads nothing
}

// content is what a thing may be, in a state of its own: a list, or a register's value.
type content struct {
	state *model.State
	long  int // how many values the list has
	value int
}

// world is what things may be: those that one that is ok reads, since what the others are plays no part. Contents have numbers, so that many things are compared as one text; and a part is tried only once on a content, since many orders lead there.
type world struct {
	things   []thing
	readers  [][]reading // of each thing
	parts    [][]part    // of each transaction, one for each thing
	many     int         // how many parts there are
	contents []content   // by their numbers; the first one is empty
	numbers  map[string]int
	behind   map[[2]int]int // of a content's and a part's number; none: it can't stand there
}

// newWorld is the world of some transactions.
func newWorld(l []api.Txn) *world {
	w := &world{parts: make([][]part, len(l)), numbers: map[string]int{}, behind: map[[2]int]int{}}
	w.number(content{state: model.New()})
	index := map[thing]int{}
	for n, x := range l {
		if x.State == api.TxOk {
			w.noteReads(n, x.Ops, index)
		}
	}
	for n, x := range l {
		if x.State == api.TxOk || x.State == api.TxInfo {
			w.parts[n] = w.split(x, index)
		}
	}
	return w
}

// noteReads notes what a transaction reads, and gives new things their numbers.
func (w *world) noteReads(n int, l []api.Op, index map[thing]int) {
	for _, o := range l {
		if !tells(o) {
			continue
		}
		t := thingOf(o)
		at, old := index[t]
		if !old {
			at = len(w.things)
			index[t] = at
			w.things, w.readers = append(w.things, t), append(w.readers, nil)
		}
		w.readers[at] = append(w.readers[at], reading{n, o})
	}
}

// split is a transaction's parts.
func (w *world) split(x api.Txn, index map[thing]int) []part {
	var parts []part
	own := map[int]int{} // the place of a thing's part
	for _, o := range x.Ops {
		t, isRead := index[thingOf(o)]
		if !isRead {
			continue
		}
		at, old := own[t]
		if !old {
			at = len(parts)
			own[t] = at
			parts = append(parts, part{number: w.many, thing: t, blind: x.State == api.TxInfo})
			w.many++
		}
		p := &parts[at]
		p.ops = append(p.ops, o)
		p.reads = p.reads || !p.blind && tells(o)
		p.writes = p.writes || ops.Writes(o.Kind)
	}
	return parts
}

// number is a content's number, a new one if it is new.
func (w *world) number(c content) int {
	text := c.state.Text()
	n, old := w.numbers[text]
	if !old {
		n = len(w.contents)
		w.numbers[text] = n
		w.contents = append(w.contents, c)
	}
	return n
}

// follow is the number of what a part makes of a content; none: it can't stand there.
func (w *world) follow(was int, p part) int {
	at := [2]int{was, p.number}
	next, old := w.behind[at]
	if !old {
		next = w.do(w.contents[was], p)
		w.behind[at] = next
	}
	return next
}

// do is what follow tells, worked out.
func (w *world) do(was content, p part) int {
	s, t := was.state.Copy(), w.things[p.thing]
	if !s.Apply(p.ops, p.blind) {
		return none
	}
	list := s.List(t.key) // of a register it is empty
	if !w.fits(p.thing, list) {
		return none
	}
	value, _ := s.Value(t.key)
	return w.number(content{s, len(list), value})
}

// fits tells whether a list may be: it only grows, and each read of it comes at some time, so that of it and a read one begins the other.
func (w *world) fits(t int, list []int) bool {
	return !slices.ContainsFunc(w.readers[t], func(r reading) bool {
		both := min(len(list), len(r.op.List))
		return !slices.Equal(list[:both], r.op.List[:both])
	})
}
