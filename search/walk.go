package search

import (
	"cmp"
	"slices"

	"assayer/api"
	"assayer/bits"
	"assayer/ops"
)

// maxKnown is how many bytes of places are kept in mind. Beyond that a beginning is gone on from, though another one may have led there: that takes steps, but no room.
const maxKnown = 1 << 27

// beginning is a beginning of an order, which its length tells: how to go on from it, and how to go back.
type beginning struct {
	next  int   // the first transaction that was not yet looked at
	ended int   // how many of byEnd, from the first on, are in it
	was   []int // what the things of its last transaction were ahead of that, part by part
}

// walk goes through the beginnings of orders, one transaction at a time, the lesser one first. What need not be gone on from is left out: a beginning that leads to where another one led; one behind which a transaction can't read any more what it read; and, where a transaction can stand whose writes nobody reads any more, all others in its place: wherever else it stood, it could stand there as well.
type walk struct {
	*world
	l       []api.Txn
	byEnd   []int            // those that have an end, by that
	writers map[[2]int][]int // of a thing and a value
	left    int              // how many that are ok are still to come
	toRead  []int            // of each thing, how many of these read it
	now     []int            // what each thing is; nobody reads it any more: nothing
	order   []int
	done    *bits.Set   // what is in the order
	stack   []beginning // the empty one, and one for each of the order
	known   map[[2]string]struct{}
	room    int // how many bytes may still be kept in mind
}

// start is a walk that has taken no step.
func start(l []api.Txn) *walk {
	done, _ := bits.New(len(l)) // there is such a set of MaxNodes, too
	w := &walk{
		world: newWorld(l), l: l, writers: map[[2]int][]int{}, done: done,
		stack: []beginning{{}}, known: map[[2]string]struct{}{}, room: maxKnown,
	}
	w.toRead, w.now = make([]int, len(w.things)), make([]int, len(w.things))
	for n, x := range l {
		if x.State == api.TxOk {
			w.left++
		}
		if hasEnd(x) {
			w.byEnd = append(w.byEnd, n)
		}
		for _, p := range w.parts[n] {
			w.note(n, p)
		}
	}
	slices.SortStableFunc(w.byEnd, func(a, b int) int { return cmp.Compare(l[a].To, l[b].To) })
	return w
}

// note notes what a part of a transaction reads and writes.
func (w *walk) note(n int, p part) {
	if p.reads {
		w.toRead[p.thing]++
	}
	for _, o := range p.ops {
		if ops.Writes(o.Kind) {
			v := [2]int{p.thing, o.Value}
			w.writers[v] = append(w.writers[v], n)
		}
	}
}

// next is the transaction that is to be put behind the beginning next; false: all that need be were.
func (w *walk) next() (int, bool) {
	b := &w.stack[len(w.stack)-1]
	for b.next < len(w.l) {
		n := b.next
		b.next++
		if w.mayFollow(n) {
			return n, true
		}
	}
	return 0, false
}

// mayFollow tells whether a transaction is to be put behind the beginning. One of unknown end is of no use where nobody reads any more what it writes.
func (w *walk) mayFollow(n int) bool {
	if w.done.Has(n) {
		return false
	}
	switch w.l[n].State {
	case api.TxOk:
		return !w.isBarred(n)
	case api.TxInfo:
		return !w.isBarred(n) && w.isWanted(n)
	}
	return false
}

// isBarred tells whether another one that is still to come ended ahead of a transaction. Of these the one that ended first tells it.
func (w *walk) isBarred(n int) bool {
	for _, first := range w.byEnd[w.stack[len(w.stack)-1].ended:] {
		if first != n && !w.done.Has(first) {
			return before(w.l[first], w.l[n])
		}
	}
	return false
}

// isWanted tells whether one that is still to come reads what a transaction writes that is in the order, or of unknown end.
func (w *walk) isWanted(n int) bool {
	return slices.ContainsFunc(w.parts[n], func(p part) bool { return p.writes && w.toRead[p.thing] > 0 })
}

// put puts a transaction behind the beginning, and goes on from there, if it can stand there and that may lead on.
func (w *walk) put(n int) {
	made, ok := w.try(n)
	if !ok {
		return
	}
	w.push(n, made)
	if !w.isWanted(n) { // it is ok, or it would not be put
		w.stack[len(w.stack)-2].next = len(w.l)
	}
	if w.isLost(n) || w.isKnown() {
		w.back()
	}
}

// try is what a transaction makes of its things, part by part; false: it can't stand behind the beginning.
func (w *walk) try(n int) ([]int, bool) {
	made := make([]int, len(w.parts[n]))
	for i, p := range w.parts[n] {
		if w.toRead[p.thing] == 0 {
			continue
		}
		made[i] = w.follow(w.now[p.thing], p)
		if made[i] == none {
			return nil, false
		}
	}
	return made, true
}

// push makes a beginning of the one that there is and a transaction, which makes its things what they are then.
func (w *walk) push(n int, made []int) {
	was := make([]int, len(made))
	for i, p := range w.parts[n] {
		was[i], w.now[p.thing] = w.now[p.thing], made[i]
		if p.reads {
			w.toRead[p.thing]--
		}
		if w.toRead[p.thing] == 0 {
			w.now[p.thing] = 0
		}
	}
	if w.l[n].State == api.TxOk {
		w.left--
	}
	w.done.Add(n)
	w.order = append(w.order, n)
	ended := w.stack[len(w.stack)-1].ended
	for ended < len(w.byEnd) && w.done.Has(w.byEnd[ended]) {
		ended++
	}
	w.stack = append(w.stack, beginning{ended: ended, was: was})
}

// back takes the order's last transaction out.
func (w *walk) back() {
	last := len(w.order) - 1
	n, was := w.order[last], w.stack[last+1].was
	w.order, w.stack = w.order[:last], w.stack[:last+1]
	w.done.Drop(n)
	if w.l[n].State == api.TxOk {
		w.left++
	}
	for i, p := range w.parts[n] {
		w.now[p.thing] = was[i]
		if p.reads {
			w.toRead[p.thing]++
		}
	}
}

// isLost tells whether, by what the last transaction wrote, one that is still to come can't read any more what it read.
func (w *walk) isLost(last int) bool {
	return slices.ContainsFunc(w.parts[last], func(p part) bool {
		return p.writes && slices.ContainsFunc(w.readers[p.thing], func(r reading) bool {
			return !w.done.Has(r.txn) && w.isGone(p.thing, r.op)
		})
	})
}

// isGone tells whether what was read of a thing that is written does not come again: a list only grows, and a register never is without a value again, and has another one only if somebody still writes that.
func (w *walk) isGone(t int, read api.Op) bool {
	c := w.contents[w.now[t]]
	if w.things[t].kind == api.OpAppend {
		return c.long > len(read.List)
	}
	return read.Nil || read.Value != c.value && !w.comes([2]int{t, read.Value})
}

// comes tells whether one that is still to come writes a value to a thing.
func (w *walk) comes(v [2]int) bool {
	return slices.ContainsFunc(w.writers[v], func(n int) bool { return !w.done.Has(n) })
}

// isKnown tells whether another beginning led to where this one does: the same transactions, the same things.
func (w *walk) isKnown() bool {
	place := [2]string{members(w.done), digits(w.now)}
	if _, old := w.known[place]; old {
		return true
	}
	if size := len(place[0]) + len(place[1]); size <= w.room {
		w.room -= size
		w.known[place] = struct{}{}
	}
	return false
}

// members is a set as a text, a bit for each number.
func members(s *bits.Set) string {
	b := make([]byte, (s.Bound()+7)/8)
	for _, n := range s.List() {
		b[n/8] |= 1 << (n % 8)
	}
	return string(b)
}

// digits is numbers from 0 on as a text: the digits of each to the base of 128, a bit beside all but the last one, so that no two lists are alike.
func digits(l []int) string {
	b := make([]byte, 0, len(l))
	for _, n := range l {
		for ; n >= 128; n /= 128 {
			b = append(b, byte(n%128+128))
		}
		b = append(b, byte(n))
	}
	return string(b)
}
