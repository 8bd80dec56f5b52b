// Package ops holds what several layers need to know of operations, so that all of them mean the same by it.
package ops

import (
	"slices"
	"strings"

	"assayer/api"
	"assayer/keys"
)

// Thing is the kind of thing that operations of a kind are of: OpAppend of a list, OpWrite of a register, 0 of a kind that is none.
func Thing(kind int) int {
	switch kind {
	case api.OpAppend, api.OpRead:
		return api.OpAppend
	case api.OpWrite, api.OpGet:
		return api.OpWrite
	}
	return 0
}

// Writes tells whether operations of a kind write.
func Writes(kind int) bool { return kind == api.OpAppend || kind == api.OpWrite }

// Can tells whether an operation may be in a history, as layer 2 says.
func Can(o api.Op) bool { return keys.Is(o.Key) && canRest(o) }

// canRest tells whether an operation may be, its key left aside.
func canRest(o api.Op) bool {
	switch o.Kind {
	case api.OpAppend, api.OpWrite:
		return len(o.List) == 0 && !o.Has && !o.Nil
	case api.OpRead:
		return o.Value == 0 && !o.Nil && len(o.List) <= api.MaxList && (o.Has || len(o.List) == 0)
	case api.OpGet:
		hasValue := o.Has && !o.Nil
		return len(o.List) == 0 && (o.Has || !o.Nil) && (hasValue || o.Value == 0)
	}
	return false
}

// Things is of each key the kind of thing that it is.
type Things map[string]int

// Note notes what the keys of operations are; false: one of them is two things. (Those ahead of it are noted all the same.)
func (t Things) Note(l []api.Op) bool {
	for _, o := range l {
		thing := Thing(o.Kind)
		if was := t[o.Key]; was != 0 && was != thing {
			return false
		}
		t[o.Key] = thing
	}
	return true
}

// Copy is the same operations in memory of their own; of the keys, too, since a key may be a piece of a long text that nobody else needs any more.
func Copy(l []api.Op) []api.Op {
	c := slices.Clone(l)
	for i := range c {
		c[i].Key = strings.Clone(c[i].Key)
		c[i].List = slices.Clone(c[i].List)
	}
	return c
}
