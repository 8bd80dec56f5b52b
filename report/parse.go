package report

import (
	"slices"

	"assayer/api"
	"assayer/levels"
	"assayer/scan"
)

// Parse is the report of a text.
func Parse(s string) (r api.Report, err error) {
	tokens, err := scan.Scan(s)
	if err != nil {
		return api.Report{}, err
	}
	defer func() {
		caught := recover()
		if caught == nil {
			return
		}
		why, gaveUp := caught.(api.Errno)
		if !gaveUp {
			panic(caught) // no fault of the text
		}
		r, err = api.Report{}, api.Fault{At: 0, Why: why}
	}()
	t := &reader{tokens: tokens}
	r = t.report()
	if !Can(r) {
		giveUp()
	}
	return r, nil
}

// giveUp leaves the reader, whose parts so need not hand on that the text is no report; Parse catches it.
func giveUp() { panic(api.ErrForm) }

// A reader takes tokens one by one. Whether what it reads may be is for Parse to ask: it takes any number, any word as a key, and lists of any length.
type reader struct {
	tokens []api.Token // those that are not taken yet
}

// report is all tokens as a report.
func (t *reader) report() api.Report {
	var r api.Report
	t.emptyLines()
	t.text("txns")
	r.Txns = t.number()
	t.lineEnd()
	t.text("unique")
	r.Unique = t.either("yes", "no")
	t.lineEnd()
	for t.sees("anomaly") {
		r.Anomalies = append(r.Anomalies, t.anomaly())
		t.lineEnd()
	}
	t.text("level")
	r.Level = t.level()
	t.lineEnd()
	t.text("answer")
	r.Answer = t.oneOf(answerWords())
	if r.Answer == api.AnswerYes {
		r.Order = t.order()
	}
	t.emptyLines() // the last line's end among them, if there is one
	if len(t.tokens) > 0 {
		giveUp()
	}
	return r
}

// anomaly is an anomaly, up to its line's end.
func (t *reader) anomaly() api.Anomaly {
	var a api.Anomaly
	t.text("anomaly")
	a.Kind = t.oneOf(kindWords())
	a.Txn = t.number()
	a.Op = t.number()
	a.Other = t.number()
	a.Key = t.key()
	a.Value = t.number()
	a.Real = t.either("real", "plain")
	a.Level = t.level()
	for t.sees("[") {
		a.Cycle = append(a.Cycle, t.dependency())
	}
	return a
}

// dependency is a dependency, from its [ to its ].
func (t *reader) dependency() api.Why {
	var w api.Why
	t.text("[")
	w.From = t.number()
	w.Label = t.oneOf(labelWords())
	w.To = t.number()
	w.Key = t.key()
	w.A = t.number()
	w.B = t.number()
	w.Nil = t.either("nil", "value")
	w.Cond = t.either("cond", "sure")
	t.text("]")
	return w
}

// order is numbers, from their ( to their ).
func (t *reader) order() []int {
	var l []int
	t.text("(")
	for !t.sees(")") {
		l = append(l, t.number())
	}
	t.text(")")
	return l
}

// key is a key in its brackets; empty, if nothing is between.
func (t *reader) key() string {
	key := ""
	t.text("(")
	if !t.sees(")") {
		key = t.take(api.TokWord).Text
	}
	t.text(")")
	return key
}

func (t *reader) level() int {
	level, ok := levels.Of(t.take(api.TokWord).Text)
	if !ok {
		giveUp()
	}
	return level
}

func (t *reader) number() int { return t.take(api.TokNumber).Number }

// either tells whether the next word is the one for true; else it must be the one for false.
func (t *reader) either(yes, no string) bool {
	if t.sees(yes) {
		t.text(yes)
		return true
	}
	t.text(no)
	return false
}

// oneOf is the place of the next word among some.
func (t *reader) oneOf(words []string) int {
	n := slices.Index(words, t.take(api.TokWord).Text)
	if n < 0 {
		giveUp()
	}
	return n
}

// lineEnd takes the end of a line, and the empty lines behind it.
func (t *reader) lineEnd() {
	t.take(api.TokLine)
	t.emptyLines()
}

func (t *reader) emptyLines() {
	for len(t.tokens) > 0 && t.tokens[0].Kind == api.TokLine {
		t.take(api.TokLine)
	}
}

// take is the next token, which must be of that kind.
func (t *reader) take(kind int) api.Token {
	if len(t.tokens) == 0 || t.tokens[0].Kind != kind {
		giveUp()
	}
	first := t.tokens[0]
	t.tokens = t.tokens[1:]
	return first
}

// text takes a word or a mark.
func (t *reader) text(text string) {
	if !t.sees(text) {
		giveUp()
	}
	t.tokens = t.tokens[1:]
}

// sees tells whether the next token is a word or a mark. Its text is enough to go by: no two kinds of tokens are spelt alike.
func (t *reader) sees(text string) bool {
	return len(t.tokens) > 0 && t.tokens[0].Text == text
}
