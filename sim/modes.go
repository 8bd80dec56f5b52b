package sim

import (
	"slices"

	"assayer/api"
	"assayer/model"
)

// store is what all clients share.
type store struct {
	*model.State
	written []string // the keys of all writes so far, in order
}

func newStore() *store { return &store{State: model.New()} }

// do does writes, in order.
func (s *store) do(l ...api.Op) {
	s.Apply(l, true)
	for _, o := range l {
		s.written = append(s.written, o.Key)
	}
}

// access is how an open transaction works on the store; each mode has its own.
type access interface {
	alone() bool          // does nobody else go on while it is open
	read(o api.Op) api.Op // the read, with what it tells
	write(o api.Op)
	commit() bool // what is still to be done to the store is done; false: it may not be, and nothing is
}

// beginning is how a transaction of a mode begins; false, if the mode is none.
func beginning(mode int) (func(*store) access, bool) {
	switch mode {
	case api.ModeSerial:
		return (*store).beginSerial, true
	case api.ModeSnapshot:
		return (*store).beginSnapshot, true
	case api.ModeCommit:
		return (*store).beginCommitted, true
	case api.ModeDirty:
		return (*store).beginDirty, true
	}
	return nil, false
}

func (s *store) beginSerial() access    { return &serial{committed{store: s}} }
func (s *store) beginCommitted() access { return &committed{store: s} }
func (s *store) beginDirty() access     { return dirty{s} }

func (s *store) beginSnapshot() access {
	return &snapshot{committed: committed{store: s}, begun: s.Copy(), since: len(s.written)}
}

// committed reads the store as it is, and keeps its writes till its end.
type committed struct {
	store *store
	kept  []api.Op
}

func (c *committed) alone() bool          { return false }
func (c *committed) read(o api.Op) api.Op { return told(o, c.store.State, c.kept) }
func (c *committed) write(o api.Op)       { c.kept = append(c.kept, o) }

func (c *committed) commit() bool {
	c.store.do(c.kept...)
	return true
}

// serial does the same alone.
type serial struct{ committed }

func (*serial) alone() bool { return true }

// snapshot reads the store as it was when it began, and gives way to who wrote the same key since then.
type snapshot struct {
	committed
	begun *model.State
	since int // how many writes had been done
}

func (s *snapshot) read(o api.Op) api.Op { return told(o, s.begun, s.kept) }

func (s *snapshot) commit() bool {
	for _, o := range s.kept {
		if slices.Contains(s.store.written[s.since:], o.Key) {
			return false
		}
	}
	return s.committed.commit()
}

// dirty reads the store as it is, and writes to it at once.
type dirty struct{ *store }

func (dirty) alone() bool            { return false }
func (d dirty) read(o api.Op) api.Op { return told(o, d.State, nil) }
func (d dirty) write(o api.Op)       { d.do(o) }
func (dirty) commit() bool           { return true }

// told is a read with what it tells: what a state has, and writes behind that. A key is of lists or of registers alone, so that all writes to it are of the kind that is read.
func told(o api.Op, s *model.State, behind []api.Op) api.Op {
	list := s.List(o.Key)
	value, has := s.Value(o.Key)
	for _, w := range behind {
		if w.Key == o.Key {
			list = append(list, w.Value)
			value, has = w.Value, true
		}
	}
	o.Has = true
	if o.Kind == api.OpRead {
		o.List = list
	} else {
		o.Value, o.Nil = value, !has
	}
	return o
}
