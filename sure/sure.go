// Package sure holds what witness and verdict need to know of a cycle, so that both of them mean the same by a sure one.
package sure

import (
	"slices"

	"assayer/api"
)

// Is tells whether all transactions of a cycle are ok, and none of its dependencies is conditional. A number beyond the transactions is none that is ok.
func Is(l []api.Txn, cycle []api.Why) bool {
	isOk := func(n int) bool { return n >= 0 && n < len(l) && l[n].State == api.TxOk }
	return !slices.ContainsFunc(cycle, func(w api.Why) bool { return w.Cond || !isOk(w.From) || !isOk(w.To) })
}
