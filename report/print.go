package report

import (
	"strconv"
	"strings"

	"assayer/api"
	"assayer/levels"
)

// Print is a report as a text.
func Print(r api.Report) (string, api.Errno) {
	if !Can(r) {
		return "", api.ErrArg
	}
	var b strings.Builder
	line := func(parts ...string) {
		b.WriteString(strings.Join(parts, " "))
		b.WriteByte('\n')
	}
	line("txns", strconv.Itoa(r.Txns))
	line("unique", either(r.Unique, "yes", "no"))
	for _, a := range r.Anomalies {
		line(anomalyParts(a)...)
	}
	line("level", levels.Name(r.Level))
	line(answerParts(r)...)
	return b.String(), api.OK
}

// anomalyParts is what stands on an anomaly's line.
func anomalyParts(a api.Anomaly) []string {
	parts := []string{
		"anomaly", wordOf(kindWords(), a.Kind),
		strconv.Itoa(a.Txn), strconv.Itoa(a.Op), strconv.Itoa(a.Other),
		bracketed(a.Key), strconv.Itoa(a.Value),
		either(a.Real, "real", "plain"), levels.Name(a.Level),
	}
	for _, w := range a.Cycle {
		parts = append(parts,
			"[", strconv.Itoa(w.From), wordOf(labelWords(), w.Label), strconv.Itoa(w.To),
			bracketed(w.Key), strconv.Itoa(w.A), strconv.Itoa(w.B),
			either(w.Nil, "nil", "value"), either(w.Cond, "cond", "sure"), "]")
	}
	return parts
}

// answerParts is what stands on the answer's line; only of yes there is an order, be it an empty one.
func answerParts(r api.Report) []string {
	parts := []string{"answer", wordOf(answerWords(), r.Answer)}
	if r.Answer != api.AnswerYes {
		return parts
	}
	parts = append(parts, "(")
	for _, n := range r.Order {
		parts = append(parts, strconv.Itoa(n))
	}
	return append(parts, ")")
}

// bracketed is a key in its brackets, which may have none between.
func bracketed(key string) string {
	if key == "" {
		return "( )"
	}
	return "( " + key + " )"
}

// either is the word for true, or the one for false.
func either(is bool, yes, no string) string {
	if is {
		return yes
	}
	return no
}
