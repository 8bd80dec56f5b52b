package histtext

import (
	"assayer/api"
	"assayer/scan"
)

// Print is a history as a text.
func Print(l []api.Event) string {
	if !Can(l) {
		return ""
	}
	var out []api.Token
	for _, e := range l {
		out = append(out, word(eventWords()[e.Kind]), number(e.Proc))
		for _, o := range e.Ops {
			out = appendOp(out, o)
		}
		out = append(out, api.Token{Kind: api.TokLine})
	}
	return scan.Print(out)
}

// appendOp puts an operation's tokens behind others.
func appendOp(out []api.Token, o api.Op) []api.Token {
	out = append(out, mark("["), word(opWords()[o.Kind]), word(o.Key))
	switch {
	case o.Kind == api.OpAppend || o.Kind == api.OpWrite:
		out = append(out, number(o.Value))
	case !o.Has:
	case o.Kind == api.OpRead:
		out = append(out, mark("("))
		for _, v := range o.List {
			out = append(out, number(v))
		}
		out = append(out, mark(")"))
	case o.Nil:
		out = append(out, word(nilWord))
	default:
		out = append(out, number(o.Value))
	}
	return append(out, mark("]"))
}

func word(s string) api.Token { return api.Token{Kind: api.TokWord, Text: s} }

func mark(s string) api.Token { return api.Token{Kind: api.TokMark, Text: s} }

func number(n int) api.Token { return api.Token{Kind: api.TokNumber, Number: n} }
