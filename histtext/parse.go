package histtext

import (
	"assayer/api"
	"assayer/keys"
	"assayer/scan"
)

// Parse is a text's history.
func Parse(s string) (l []api.Event, err error) {
	tokens, err := scan.Scan(s)
	if err != nil {
		return nil, err
	}
	defer func() {
		if r := recover(); r != nil {
			fault, ok := r.(api.Fault)
			if !ok {
				panic(r) // no fault of the text
			}
			l, err = nil, fault
		}
	}()
	p := &parser{tokens: tokens, end: len(s)}
	return p.history(), nil
}

// A parser gives up by a panic with an api.Fault, so that none of its parts has to hand a fault on; Parse catches it.
type parser struct {
	tokens []api.Token
	next   int // the first token that is not taken yet
	end    int // of the text: the place of a token that is missing
}

// history is events on lines of their own, with empty lines anywhere.
func (p *parser) history() []api.Event {
	var out []api.Event
	for p.next < len(p.tokens) {
		if p.look().Kind == api.TokLine {
			p.next++
			continue
		}
		if len(out) == api.MaxEvents {
			p.giveUp(api.ErrFull)
		}
		out = append(out, p.event())
	}
	return out
}

// event is one event, up to its line's end.
func (p *parser) event() api.Event {
	e := api.Event{Kind: p.kind(eventWords())}
	e.Proc = p.process()
	e.Ops = append(e.Ops, p.op())
	for p.sees(api.TokMark, "[") {
		if len(e.Ops) == api.MaxOps {
			p.giveUp(api.ErrFull)
		}
		e.Ops = append(e.Ops, p.op())
	}
	if p.next < len(p.tokens) && p.look().Kind != api.TokLine {
		p.giveUp(api.ErrToken)
	}
	return e
}

// op is an operation, from its [ to its ].
func (p *parser) op() api.Op {
	p.mark("[")
	o := api.Op{Kind: p.kind(opWords())}
	o.Key = p.key()
	switch o.Kind {
	case api.OpAppend, api.OpWrite:
		o.Value = p.number()
	case api.OpRead:
		if o.Has = p.sees(api.TokMark, "("); o.Has {
			o.List = p.list()
		}
	case api.OpGet:
		if o.Nil = p.sees(api.TokWord, nilWord); o.Nil {
			o.Has = true
			p.next++
		} else if p.look().Kind == api.TokNumber {
			o.Has = true
			o.Value = p.number()
		}
	}
	p.mark("]")
	return o
}

// list is values, from their ( to their ).
func (p *parser) list() []int {
	p.mark("(")
	var out []int
	for p.look().Kind == api.TokNumber {
		if len(out) == api.MaxList {
			p.giveUp(api.ErrFull)
		}
		out = append(out, p.number())
	}
	p.mark(")")
	return out
}

// kind is the place of the next word among some.
func (p *parser) kind(words [5]string) int {
	for i, w := range words {
		if p.sees(api.TokWord, w) {
			p.next++
			return i
		}
	}
	p.giveUp(api.ErrToken)
	return 0
}

func (p *parser) key() string {
	t := p.look()
	if t.Kind != api.TokWord || !keys.Is(t.Text) {
		p.giveUp(api.ErrToken)
	}
	p.next++
	return t.Text
}

func (p *parser) process() int {
	t := p.look()
	if t.Kind != api.TokNumber || !isProcess(t.Number) {
		p.giveUp(api.ErrToken)
	}
	p.next++
	return t.Number
}

func (p *parser) number() int {
	t := p.look()
	if t.Kind != api.TokNumber {
		p.giveUp(api.ErrToken)
	}
	p.next++
	return t.Number
}

func (p *parser) mark(text string) {
	if !p.sees(api.TokMark, text) {
		p.giveUp(api.ErrToken)
	}
	p.next++
}

func (p *parser) sees(kind int, text string) bool {
	t := p.look()
	return t.Kind == kind && t.Text == text
}

// look is the next token; behind the last one, one of no kind at the text's end.
func (p *parser) look() api.Token {
	if p.next < len(p.tokens) {
		return p.tokens[p.next]
	}
	return api.Token{At: p.end}
}

// giveUp leaves the parser with a fault at the next token.
func (p *parser) giveUp(why api.Errno) {
	panic(api.Fault{At: p.look().At, Why: why})
}
