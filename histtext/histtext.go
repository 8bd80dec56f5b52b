// Package histtext is layer 2: see ../../shared/doc/02-histtext.md.
package histtext

import (
	"slices"

	"assayer/api"
	"assayer/ops"
)

// eventWords is the words of the kinds of events, each at its kind's place; at 0, where no kind is, none.
func eventWords() [5]string {
	return [5]string{api.EvInvoke: "invoke", api.EvOk: "ok", api.EvFail: "fail", api.EvInfo: "info"}
}

// opWords is likewise those of the kinds of operations.
func opWords() [5]string {
	return [5]string{api.OpAppend: "append", api.OpRead: "read", api.OpWrite: "write", api.OpGet: "get"}
}

// nilWord tells that a register was never written.
const nilWord = "nil"

// Can tells whether a history may be.
func Can(l []api.Event) bool {
	if len(l) > api.MaxEvents {
		return false
	}
	for _, e := range l {
		if !canEvent(e) {
			return false
		}
	}
	return true
}

func canEvent(e api.Event) bool {
	if e.Kind < api.EvInvoke || e.Kind > api.EvInfo || !isProcess(e.Proc) {
		return false
	}
	if len(e.Ops) < 1 || len(e.Ops) > api.MaxOps {
		return false
	}
	for _, o := range e.Ops {
		if !ops.Can(o) {
			return false
		}
	}
	return true
}

func isProcess(n int) bool { return 0 <= n && n <= api.MaxProc }

// Same tells whether two histories are the same.
func Same(a, b []api.Event) bool { return slices.EqualFunc(a, b, sameEvent) }

func sameEvent(a, b api.Event) bool {
	return a.Kind == b.Kind && a.Proc == b.Proc && slices.EqualFunc(a.Ops, b.Ops, sameOp)
}

func sameOp(a, b api.Op) bool {
	return a.Kind == b.Kind && a.Key == b.Key && a.Value == b.Value &&
		a.Has == b.Has && a.Nil == b.Nil && slices.Equal(a.List, b.List)
}
