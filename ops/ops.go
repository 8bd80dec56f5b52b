// Package ops holds what several layers need to know of operations, so that all of them mean the same by it.
package ops

import (
	"slices"
	"strings"

	"assayer/api"
)

// Thing is the kind of thing that operations of a kind are of: OpAppend of a list, OpWrite of a register, 0 of a kind that is none.
func Thing(kind int) int {
	switch kind {
	case api.OpAppend, api.OpRead:
		return api.OpAppend
	case api.OpWrite, api.OpGet:
		return api.OpWrite
	}
	return 0
}

// Writes tells whether operations of a kind write.
func Writes(kind int) bool { return kind == api.OpAppend || kind == api.OpWrite }

// Copy is the same operations in memory of their own; of the keys, too, since a key may be a piece of a long text that nobody else needs any more.
func Copy(l []api.Op) []api.Op {
	c := slices.Clone(l)
	for i := range c {
		c[i].Key = strings.Clone(c[i].Key)
		c[i].List = slices.Clone(c[i].List)
	}
	return c
}
