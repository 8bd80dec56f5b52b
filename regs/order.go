package regs

import (
	"slices"

	"assayer/api"
	"assayer/closure"
)

// beginning is the number of the version that nobody wrote.
const beginning = 0

// version is a value of a register, and the transaction that wrote it.
type version struct {
	value, writer int
}

// order is the versions of a register that are known, by their numbers, and which stand ahead of which.
type order struct {
	*closure.Order
	versions []version
	numbers  map[int]int // by value
}

// order is that of a register's versions; false: nothing is told of them.
func (k *look) order(wrong []api.Anomaly) (order, bool) {
	if slices.ContainsFunc(wrong, func(a api.Anomaly) bool { return a.Kind != api.AnMiddle }) {
		return order{}, false
	}
	values := k.known()
	steps, e := closure.New(1 + len(values))
	if e != api.OK {
		return order{}, false
	}
	o := order{Order: steps, versions: []version{{}}, numbers: map[int]int{}}
	for _, value := range values {
		w, _ := k.writer(value)
		n := len(o.versions)
		o.numbers[value] = n
		o.versions = append(o.versions, version{value, w.Txn})
		o.Add(beginning, n, true)
	}
	for _, g := range k.gets {
		o.step(g, k.finals)
	}
	return o, true
}

// known is the values of the versions that are known, rising. What a transaction wrote over itself is none unless another one got it.
func (k *look) known() []int {
	var l []int
	for _, value := range k.finals {
		l = append(l, value)
	}
	for _, g := range k.gets {
		if w, ok := k.writer(g.value); ok && !g.none && w.Txn != g.txn {
			l = append(l, g.value)
		}
	}
	slices.Sort(l)
	return slices.Compact(l)
}

// step puts what a transaction got ahead of what it left. This is sure only of the beginning: of any other version it holds only if the transaction wrote over what it got.
func (o *order) step(g get, finals map[int]int) {
	from, known := o.number(g)
	value, writes := finals[g.txn]
	if !g.outer || !known || !writes {
		return
	}
	if to := o.numbers[value]; from != to {
		o.Add(from, to, from == beginning)
	}
}

// number is that of the version that a get has; false: it is no version that is known.
func (o *order) number(g get) (int, bool) {
	if g.none {
		return beginning, true
	}
	n, ok := o.numbers[g.value]
	return n, ok
}

// values is those of the versions but the beginning.
func (o *order) values() []int {
	var l []int
	for _, v := range o.versions[beginning+1:] {
		l = append(l, v.value)
	}
	return l
}

// why is a dependency of a transaction and the writer of b, that comes of version a standing ahead of version b.
func (o *order) why(label, from, a, b int) api.Why {
	return api.Why{
		From: from, To: o.versions[b].writer, Label: label,
		A: o.versions[a].value, B: o.versions[b].value,
		Nil: a == beginning, Cond: !o.Sure(a, b),
	}
}
