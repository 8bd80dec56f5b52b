package report

import (
	"errors"
	"math"
	"regexp"
	"slices"
	"strconv"
	"strings"
	"testing"

	"assayer/api"
	"assayer/histtext"
	"assayer/scan"
	"assayer/verdict"
)

// parsed is the report of a text that is one.
func parsed(t *testing.T, s string) api.Report {
	t.Helper()
	r, err := Parse(s)
	if err != nil {
		t.Fatalf("%q: %v", s, err)
	}
	return r
}

// wantFault fails unless a text is refused with that fault, as a value, with that number alone in it, and no report.
func wantFault(t *testing.T, s string, at int, why api.Errno) {
	t.Helper()
	r, err := Parse(s)
	if f, ok := err.(api.Fault); !ok || f != (api.Fault{At: at, Why: why}) {
		t.Fatalf("%q: %v, want error %d at %d", s, err, why, at)
	}
	for n := api.Errno(0); n < 300; n++ {
		if errors.Is(err, n) != (n == why) {
			t.Fatalf("%q: errors.Is of %d", s, n)
		}
	}
	if !Same(r, api.Report{}) {
		t.Fatalf("%q: a report beside a fault: %v", s, r)
	}
}

// otherForms is a text with other blanks and lines' ends, which say the same.
func otherForms(s string) []string {
	return []string{
		s,
		strings.TrimSuffix(s, "\n"),
		strings.TrimSuffix(s, "\n") + "  ",
		"\n \n  " + s + "\n \n",
		strings.ReplaceAll(s, "\n", " \n\n  \n "),
		strings.ReplaceAll(s, " ", "   "),
		strings.NewReplacer(" ( ", "(", " ) ", ")", " )", ")", " [ ", "[", " ]", "]").Replace(s),
	}
}

// P21.2
func TestParse(t *testing.T) {
	for _, s := range otherForms(ordinaryText) {
		if r := parsed(t, s); !Same(r, ordinaryReport()) {
			t.Errorf("%q: %v", s, r)
		}
	}
	for _, x := range []struct {
		s    string
		want api.Report
	}{
		{"txns 0\nunique yes\nlevel none\nanswer none\n", api.Report{Unique: true}},
		{"txns 0\nunique no\nlevel none\nanswer none", api.Report{}},
		{"txns 300\nunique no\nlevel pl1\nanswer no", api.Report{Txns: 300, Level: api.LevelPL1, Answer: api.AnswerNo}},
		{"txns 1\nunique no\nlevel pl2plus\nanswer unknown", api.Report{Txns: 1, Level: api.LevelPL2P, Answer: api.AnswerUnknown}},
		{"txns 1\nunique no\nlevel strict\nanswer yes()", api.Report{Txns: 1, Level: api.LevelStrict, Answer: api.AnswerYes}},
		{"txns 1\nunique no\nlevel strict\nanswer yes(0-1 7)", api.Report{Txns: 1, Level: api.LevelStrict, Answer: api.AnswerYes, Order: []int{0, -1, 7}}},
		{"txns 0\nunique no\nanomaly g0 1-2 3(a)-4 real pl3[5 rt 6(b)7-8 nil cond]\nlevel none\nanswer none", withAnomaly(api.Anomaly{
			Kind: api.AnG0, Txn: 1, Op: -2, Other: 3, Key: "a", Value: -4, Real: true, Level: api.LevelPL3,
			Cycle: []api.Why{{From: 5, To: 6, Label: api.LabelRT, Key: "b", A: 7, B: -8, Nil: true, Cond: true}},
		})},
	} {
		if r := parsed(t, x.s); !Same(r, x.want) {
			t.Errorf("%q: %v", x.s, r)
		}
	}
}

// P21.2
func TestParseFaults(t *testing.T) {
	for _, s := range []string{
		"", " ", "\n", "\n\n", "txns", "txns 0", "txns 0\n", "x", "[", "5", "level none\nanswer none",
		"txns 0\nunique no\nlevel none\n",
		"txns 0\nunique no\nlevel none\nanswer none\nanswer none",
		"txns 0\nunique no\nlevel none\nanswer none x",
		"txns 0\nunique no\nlevel none\nanswer none\nx",
		"txns 0\nunique no\nlevel none\nanswer none\ntxns 0\nunique no\nlevel none\nanswer none\n",
		"txns 0 unique no\nlevel none\nanswer none",
		"txns 0\nunique no level none\nanswer none",
		"txns 0\nunique no\nlevel none answer none",
		"txns\n0\nunique no\nlevel none\nanswer none",
		"txns 0\nunique\nno\nlevel none\nanswer none",
		"txns 0\nunique no\nlevel\nnone\nanswer none",
		"txns 0\nunique no\nlevel none\nanswer\nnone",
		"unique no\ntxns 0\nlevel none\nanswer none",
		"txns 0\nunique no\nanswer none\nlevel none",
		"txns 0\nunique no\nlevel none\nanomaly fork 0 0 0 ( ) 0 plain none\nanswer none",
		"txns -1\nunique no\nlevel none\nanswer none",
		"txns 301\nunique no\nlevel none\nanswer none",
		"txns none\nunique no\nlevel none\nanswer none",
		"txns 0\nunique none\nlevel none\nanswer none",
		"txns 0\nunique 1\nlevel none\nanswer none",
		"txns 0\nunique no\nlevel pl4\nanswer none",
		"txns 0\nunique no\nlevel 0\nanswer none",
		"txns 0\nunique no\nlevel none\nanswer 0",
		"txns 0\nunique no\nlevel none\nanswer maybe",
		"txns 0\nunique no\nlevel none\nanswer yes",
		"txns 0\nunique no\nlevel none\nanswer yes (",
		"txns 0\nunique no\nlevel none\nanswer yes ( 1",
		"txns 0\nunique no\nlevel none\nanswer yes ( 1 ) 2",
		"txns 0\nunique no\nlevel none\nanswer yes 1",
		"txns 0\nunique no\nlevel none\nanswer yes ( x )",
		"txns 0\nunique no\nlevel none\nanswer yes ( ( 1 ) )",
		"txns 0\nunique no\nlevel none\nanswer yes [ 1 ]",
		"txns 0\nunique no\nlevel none\nanswer yes\n( 1 )",
		"txns 0\nunique no\nlevel none\nanswer no ( )",
		"txns 0\nunique no\nlevel none\nanswer none ( )",
		"txns 0\nunique no\nlevel none\nanswer unknown ( 1 )",
	} {
		wantFault(t, s, 0, api.ErrForm)
	}
}

// inLines is a text with these lines of anomalies.
func inLines(lines string) string {
	return "txns 0\nunique no\n" + lines + "\nlevel none\nanswer none\n"
}

// P21.2
func TestParseAnomalyFaults(t *testing.T) {
	const ahead = "anomaly g0 0 0 0 ( ) 0 plain none "
	for _, s := range []string{
		"anomaly", "anomaly fork", "anomaly 4 0 0 0 ( ) 0 plain none", "anomaly g3 0 0 0 ( ) 0 plain none", "anomaly g 0 0 0 ( ) 0 plain none",
		"fork 0 0 0 ( ) 0 plain none",
		"anomaly fork 0 0 ( ) 0 plain none", "anomaly fork 0 0 0 0 ( ) 0 plain none", "anomaly fork 0 0 0 x 0 plain none", "anomaly fork 0 0 0 0 plain none",
		"anomaly fork 0 0 0 ( ( ) 0 plain none", "anomaly fork 0 0 0 ( 5 ) 0 plain none", "anomaly fork 0 0 0 ( x y ) 0 plain none", "anomaly fork 0 0 0 [ x ] 0 plain none",
		"anomaly fork 0 0 0 ( abcdefg ) 0 plain none", "anomaly fork 0 0 0 ( x ) plain none", "anomaly fork 0 0 0 ( x ) 0 none", "anomaly fork 0 0 0 ( x ) 0 plain",
		"anomaly fork 0 0 0 ( x ) 0 real plain none", "anomaly fork 0 0 0 ( x ) 0 strict none", "anomaly fork 0 0 0 ( x ) 0 plain pl", "anomaly fork 0 0 0 ( x ) 0 plain 1",
		"anomaly fork 0 0 0 ( x ) 0 plain none anomaly fork 0 0 0 ( x ) 0 plain none", "anomaly fork 0 0 0 ( x ) 0\nplain none",
		ahead + "[", ahead + "[ ]", ahead + "]", ahead + "( )", ahead + "0",
		ahead + "[ 0 ww 0 ( ) 0 0 nil sure", ahead + "[ 0 ww 0 ( ) 0 0 nil sure ] ]", ahead + "[ [ 0 ww 0 ( ) 0 0 nil sure ] ]", ahead + "[ 0 ww 0 ( ) 0 0 nil sure )",
		ahead + "\n[ 0 ww 0 ( ) 0 0 nil sure ]", ahead + "[ 0 ww 0 ( ) 0 0 nil sure ] 0",
		ahead + "[ ww 0 ( ) 0 0 nil sure ]", ahead + "[ 0 1 0 ( ) 0 0 nil sure ]", ahead + "[ 0 xx 0 ( ) 0 0 nil sure ]", ahead + "[ 0 ww ( ) 0 0 nil sure ]",
		ahead + "[ 0 ww 0 0 0 nil sure ]", ahead + "[ 0 ww 0 ( abcdefg ) 0 0 nil sure ]", ahead + "[ 0 ww 0 ( ) 0 nil sure ]", ahead + "[ 0 ww 0 ( ) 0 0 0 nil sure ]",
		ahead + "[ 0 ww 0 ( ) 0 0 sure ]", ahead + "[ 0 ww 0 ( ) 0 0 nil ]", ahead + "[ 0 ww 0 ( ) 0 0 sure nil ]", ahead + "[ 0 ww 0 ( ) 0 0 none sure ]", ahead + "[ 0 ww 0 ( ) 0 0 nil yes ]",
	} {
		wantFault(t, inLines(s), 0, api.ErrForm)
	}
	parsed(t, inLines(ahead))
	parsed(t, inLines(ahead+"[ 0 ww 0 ( ) 0 0 nil sure ][ 0 ww 0 ( ) 0 0 nil sure ]"))
}

// P21.2: the faults of layer 1 come ahead, wherever they are.
func TestParseScansFirst(t *testing.T) {
	wantFault(t, "] 0 A", 4, api.ErrChar)
	wantFault(t, "txns txns 9223372036854775808", 10, api.ErrBig)
	wantFault(t, "txns 0unique no", 6, api.ErrChar)
	wantFault(t, ordinaryText+"-", len(ordinaryText), api.ErrChar)
	wantFault(t, ordinaryText+"{", len(ordinaryText), api.ErrChar)
	wantFault(t, ordinaryText+strings.Repeat(" ", api.MaxText), 0, api.ErrFull)
	wantFault(t, strings.Repeat("{", api.MaxText+1), 0, api.ErrFull)
	wantFault(t, strings.Repeat(" ", api.MaxText), 0, api.ErrForm)
	if r := parsed(t, ordinaryText+strings.Repeat(" ", api.MaxText-len(ordinaryText))); !Same(r, ordinaryReport()) {
		t.Error(r)
	}
}

// P21.2
func TestParseLimits(t *testing.T) {
	order := "txns 0\nunique no\nlevel none\nanswer yes (" + strings.Repeat(" 5", api.MaxNodes)
	if r := parsed(t, order+" )"); len(r.Order) != api.MaxNodes {
		t.Error(len(r.Order))
	}
	wantFault(t, order+" 5 )", 0, api.ErrForm)
	cycle := "anomaly g0 0 0 0 ( ) 0 real pl1" + strings.Repeat("[0 ww 0()0 0 nil sure]", api.MaxNodes)
	if r := parsed(t, inLines(cycle)); len(r.Anomalies[0].Cycle) != api.MaxNodes {
		t.Error(len(r.Anomalies[0].Cycle))
	}
	wantFault(t, inLines(cycle+"[0 ww 0()0 0 nil sure]"), 0, api.ErrForm)
	parsed(t, inLines("anomaly fork 0 0 0 ( abcdef ) 0 plain none"))
	parsed(t, inLines("anomaly fork 0 0 0 ( ) 0 plain none [ 0 ww 0 ( abcdef ) 0 0 nil sure ]"))
}

// isReport tells by an expression whether a text is one; texts with as many parts as the limits are no concern of it.
func isReport(tokens []api.Token) bool {
	const (
		number = `(-?[0-9]+) `
		key    = `\( ([a-z][a-z0-9]{0,5} )?\) `
		level  = `(none|pl1|pl2|pl2plus|pl3|strict)`
		kind   = `(internal|garbage|twice|fork|aborted|middle|order|g0|g1c|single|g2) `
		link   = `( \[ ` + number + `(ww|wr|rw|rt) ` + number + key + number + number + `(nil|value) (cond|sure) \])`
	)
	whole := regexp.MustCompile(`^\n*txns ([0-9]+)\n+unique (yes|no)\n+` +
		`(anomaly ` + kind + number + number + number + key + number + `(real|plain) ` + level + link + `*\n+)*` +
		`level ` + level + `\n+answer (none|no|unknown|yes \( (` + number + `)*\))\n*$`)
	m := whole.FindStringSubmatch(scan.Print(tokens))
	if m == nil {
		return false
	}
	n, err := strconv.Atoi(m[1])
	return err == nil && n <= api.MaxNodes
}

// withoutEmptyLines is tokens with the lines' ends that a printed text has.
func withoutEmptyLines(l []api.Token) []api.Token {
	var out []api.Token
	for _, x := range append(slices.Clone(l), api.Token{Kind: api.TokLine}) {
		if x.Kind != api.TokLine || len(out) > 0 && out[len(out)-1].Kind != api.TokLine {
			out = append(out, x)
		}
	}
	return out
}

// P21.2, P21.4: of a report's tokens each one taken away, put twice, put elsewhere, or another one put in its place or ahead of it.
func TestParseEachToken(t *testing.T) {
	others, err := scan.Scan("x abcdefg txns unique anomaly level answer yes no real plain nil value cond sure fork g0 ww rt none pl1 unknown 0 5 -5 301()[]\n")
	if err != nil {
		t.Fatal(err)
	}
	right, wrong := 0, 0
	try := func(parts ...[]api.Token) {
		l := slices.Concat(parts...)
		s := scan.Print(l)
		r, err := Parse(s)
		if !isReport(l) {
			wrong++
			wantFault(t, s, 0, api.ErrForm)
			return
		}
		right++
		if err != nil || printed(t, r) != scan.Print(withoutEmptyLines(l)) {
			t.Fatalf("%q: %v, %v", s, r, err)
		}
	}
	for _, s := range []string{
		"txns 0\nunique yes\nlevel none\nanswer none\n",
		"txns 30\nunique no\nanomaly fork 1 0 2 ( x ) 7 plain pl1\nanomaly g2 0 0 0 ( ) 0 real strict [ 0 rw 1 ( y ) 0 2 nil sure ] [ 1 rt 0 ( ) 0 0 value cond ]\nlevel pl1\nanswer yes ( 2 0 )\n",
	} {
		l, err := scan.Scan(s)
		if err != nil {
			t.Fatal(err)
		}
		for i := range l {
			try(l[:i])
			try(l[i:])
			try(l[:i], l[i+1:])
			try(l[:i+1], l[i:])
			for j := range others {
				try(l[:i], others[j:j+1], l[i+1:])
				try(l[:i], others[j:j+1], l[i:])
			}
			for j := i + 1; j < len(l); j++ {
				try(l[:i], l[j:j+1], l[i+1:j], l[i:i+1], l[j+1:])
				try(l[:i], l[j:])
			}
		}
	}
	if right < 100 || wrong < 1000 {
		t.Error(right, wrong)
	}
}

// reports is many reports that may be, made by a short rule.
func reports() []api.Report {
	seed := uint32(1)
	pick := func(n int) int {
		seed = seed*1664525 + 1013904223
		return int(seed>>16) % n
	}
	numbers := []int{0, 1, -1, 42, 299, -300, math.MaxInt64, math.MinInt64}
	texts := []string{"", "x", "y1", "nil", "abcdef", "real", "yes", "anomal"}
	number := func() int { return numbers[pick(len(numbers))] }
	key := func() string { return texts[pick(len(texts))] }
	out := []api.Report{{}, ordinaryReport()}
	for range 500 {
		r := api.Report{Txns: pick(api.MaxNodes + 1), Unique: pick(2) > 0, Level: pick(6), Answer: pick(4)}
		for range pick(6) {
			a := api.Anomaly{Kind: 1 + pick(11), Txn: number(), Op: number(), Other: number(), Key: key(), Value: number(), Real: pick(2) > 0, Level: pick(6)}
			for range pick(5) {
				a.Cycle = append(a.Cycle, api.Why{From: number(), To: number(), Label: 1 << pick(4), Key: key(), A: number(), B: number(), Nil: pick(2) > 0, Cond: pick(2) > 0})
			}
			r.Anomalies = append(r.Anomalies, a)
		}
		if r.Answer == api.AnswerYes {
			for range pick(10) {
				r.Order = append(r.Order, number())
			}
		}
		out = append(out, r)
	}
	return out
}

// P21.3
func TestThereAndBack(t *testing.T) {
	for _, r := range slices.Concat(reports(), rightReports()) {
		s := printed(t, r)
		if len(s) > api.MaxText {
			wantFault(t, s, 0, api.ErrFull)
		} else if got := parsed(t, s); !Same(got, r) {
			t.Fatalf("%q: %v", s, got)
		}
	}
}

// P21.3: up to the last byte that a text may have.
func TestThereAndBackLimit(t *testing.T) {
	r := ordinaryReport()
	for len(printed(t, r)) < api.MaxText-100 {
		r.Anomalies = append(r.Anomalies, fork())
	}
	last, digits := len(r.Anomalies)-1, api.MaxText-len(printed(t, r))
	for n := range 10 { // a power of ten has as many digits more as it is powers
		power := min(digits, 18)
		r.Anomalies[last-n].Value = int(math.Pow10(power))
		digits -= power
	}
	s := printed(t, r)
	if len(s) != api.MaxText || !Same(parsed(t, s), r) {
		t.Error(len(s))
	}
	r.Anomalies[last].Value = -r.Anomalies[last].Value
	s = printed(t, r)
	if len(s) != api.MaxText+1 {
		t.Error(len(s))
	}
	wantFault(t, s, 0, api.ErrFull)
	if got := parsed(t, strings.TrimSuffix(s, "\n")); !Same(got, r) {
		t.Error("without the last line's end")
	}
}

// P21.4: the printed text has at most MaxText bytes here, as a longer one is none that Parse reads.
func TestOneForm(t *testing.T) {
	for _, r := range reports() {
		s := printed(t, r)
		for _, other := range otherForms(s) {
			if len(other) > api.MaxText {
				continue
			}
			got := parsed(t, other)
			if again := printed(t, got); again != s || !Same(parsed(t, again), got) {
				t.Fatalf("%q: %q", other, again)
			}
		}
	}
}

// P1 of DOC.md: what a history's judge tells is read again as it was printed.
func TestReportsOfHistories(t *testing.T) {
	for _, x := range []struct {
		history string
		kinds   []int
	}{
		{"", nil},
		{"invoke 0 [append x 1]\nok 0 [append x 1]\ninvoke 1 [append x 2]\nok 1 [append x 2]\ninvoke 2 [read x]\nok 2 [read x (1)]\ninvoke 3 [read x]\nok 3 [read x (2)]\n", []int{api.AnFork}},
		{"invoke 0 [append x 1] [read y]\ninvoke 1 [append y 2] [read x]\nok 0 [append x 1] [read y ()]\nok 1 [append y 2] [read x ()]\ninvoke 2 [read x] [read y]\nok 2 [read x (1)] [read y (2)]\n", []int{api.AnG2}},
		{"invoke 0 [append x 1]\nfail 0 [append x 1]\ninvoke 1 [read x]\nok 1 [read x (1)]\n", []int{api.AnAborted}},
		{"invoke 0 [write p 1]\nok 0 [write p 1]\ninvoke 1 [get p]\nok 1 [get p nil]\n", []int{api.AnSingle}},
		{"invoke 0 [get p]\nok 0 [get p 3]\n", []int{api.AnGarbage}},
	} {
		l, err := histtext.Parse(x.history)
		if err != nil {
			t.Fatal(err)
		}
		for _, steps := range []int{0, api.MaxSteps} {
			r, err := verdict.Judge(l, api.Options{Real: true, Search: true, Steps: steps})
			if err != nil || !Can(r) {
				t.Fatalf("%q: %v", x.history, err)
			}
			for n, kind := range x.kinds {
				if n >= len(r.Anomalies) || r.Anomalies[n].Kind != kind {
					t.Errorf("%q: %v", x.history, r.Anomalies)
				}
			}
			if s := printed(t, r); !Same(parsed(t, s), r) {
				t.Errorf("%q: %q", x.history, s)
			}
		}
	}
}

// No two lists of an answer share memory, spare room included.
func TestParseMemory(t *testing.T) {
	r, again := parsed(t, ordinaryText), parsed(t, ordinaryText)
	for n, a := range r.Anomalies {
		_ = append(a.Cycle, slices.Repeat([]api.Why{{From: 1000 + n}}, cap(a.Cycle)-len(a.Cycle))...)
	}
	_ = append(r.Order, slices.Repeat([]int{77}, cap(r.Order)-len(r.Order))...)
	_ = append(r.Anomalies, make([]api.Anomaly, cap(r.Anomalies)-len(r.Anomalies))...)
	if !Same(r, ordinaryReport()) {
		t.Error("shared memory within an answer")
	}
	for n, a := range r.Anomalies {
		for _, w := range a.Cycle[len(a.Cycle):cap(a.Cycle)] {
			if w.From != 1000+n {
				t.Error("shared room behind a cycle")
			}
		}
	}
	for n := range r.Order {
		r.Order[n] = -9
	}
	clear(r.Anomalies[8].Cycle)
	clear(r.Anomalies)
	if !Same(again, ordinaryReport()) {
		t.Error("shared memory with another answer")
	}
}
