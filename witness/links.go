package witness

import (
	"assayer/api"
	"assayer/lists"
	"assayer/realtime"
	"assayer/regs"
	"assayer/table"
)

// links is the dependencies of a history. Those of a key are worked out once, since a cycle may have many of it.
type links struct {
	txns  []api.Txn
	table *table.Table
	known map[string]map[api.Why]struct{} // by key
}

func newLinks(l []api.Txn) *links {
	return &links{l, table.New(l), map[string]map[api.Why]struct{}{}}
}

// Holds tells whether a dependency does.
func Holds(l []api.Txn, w api.Why) bool { return newLinks(l).holds(w) }

func (k *links) holds(w api.Why) bool {
	if isOfTime(w) {
		return k.holdsInTime(w)
	}
	_, ok := k.of(w.Key)[w]
	return ok
}

// holdsInTime asks for no more than that the one is before the other: whether a third one is between them plays no part.
func (k *links) holdsInTime(w api.Why) bool {
	isPlace := func(n int) bool { return n >= 0 && n < len(k.txns) }
	return w == api.Why{From: w.From, To: w.To, Label: api.LabelRT} &&
		isPlace(w.From) && isPlace(w.To) && realtime.Before(k.txns[w.From], k.txns[w.To])
}

// of is the dependencies of a key.
func (k *links) of(key string) map[api.Why]struct{} {
	if m, old := k.known[key]; old {
		return m
	}
	edges := lists.Edges
	if k.table.Kind(key) == api.OpWrite {
		edges = regs.Edges
	}
	m := map[api.Why]struct{}{}
	for _, w := range edges(k.table, key) {
		m[w] = struct{}{}
	}
	k.known[key] = m
	return m
}

// isOfTime tells whether a dependency comes of real time.
func isOfTime(w api.Why) bool { return w.Label == api.LabelRT }
