package desk

import (
	"strconv"
	"strings"
	"testing"

	"assayer/api"
	"assayer/histtext"
)

// wantText fails unless a command comes to that.
func wantText(t *testing.T, options, text, want string) {
	t.Helper()
	if s, err := Run(options, text); s != want || err != nil {
		t.Errorf("%q of %q: %v\n%swant\n%s", options, text, err, s, want)
	}
}

// wantRefused fails unless a command comes to that fault, and nothing beside it.
func wantRefused(t *testing.T, options, text string, at int, why api.Errno) {
	t.Helper()
	if s, err := Run(options, text); s != "" || !isFault(err, at, why) {
		t.Errorf("%q of %q: %q, %v, want error %d at %d", options, text, s, err, why, at)
	}
}

// P24.2: the chapter's example, and the little that there can be.
func TestNothing(t *testing.T) {
	for _, text := range []string{"", "\n", "  \n \n\n  "} {
		wantText(t, "", text, "txns 0\nunique yes\nlevel none\nanswer none\n")
		wantText(t, "echo real steps 3", text, "txns 0\nunique yes\nlevel none\nanswer none\n")
		wantText(t, "search", text, "txns 0\nunique yes\nlevel none\nanswer yes ( )\n")
	}
}

const (
	fork = `invoke 0 [append x 1] [read x]
		invoke 1 [append x 2] [read x]
		ok 0 [append x 1] [read x (1)]
		ok 1 [append x 2] [read x (2)]`
	skew = `invoke 0 [append x 1] [read y]
		invoke 1 [append y 2] [read x]
		ok 0 [append x 1] [read y ()]
		ok 1 [append y 2] [read x ()]
		invoke 2 [read x] [read y]
		ok 2 [read x (1)] [read y (2)]`
	aborted = `invoke 0 [append x 1]
		fail 0 [append x 1]
		invoke 1 [read x]
		ok 1 [read x (1)]`
	between = `invoke 0 [read x] [append x 3]
		invoke 1 [append x 1]
		ok 1 [append x 1]
		invoke 1 [append x 2]
		ok 1 [append x 2]
		ok 0 [read x (1)] [append x 3]
		invoke 2 [read x]
		ok 2 [read x (1 2 3)]`
	late = `invoke 0 [append x 1]
		ok 0 [append x 1]
		invoke 1 [read x]
		ok 1 [read x ()]
		invoke 2 [read x]
		ok 2 [read x (1)]`
	twice = `invoke 0 [write p 1]
		ok 0 [write p 1]
		invoke 1 [write p 1]
		ok 1 [write p 1]
		invoke 2 [get p]
		ok 2 [get p 1]`
	done = `invoke 0 [append x 1]
		invoke 1 [read x]
		ok 1 [read x (1)]`
	undone = `invoke 0 [append x 1]
		invoke 1 [read x]
		ok 1 [read x ()]`
	short = "invoke 0 [append x 1"
)

// P24.2: DOC.md's eight examples of the whole, with real time and without, searched with and without steps.
func TestExamples(t *testing.T) {
	for text, lines := range map[string][]string{
		fork:    {"txns 2", "unique yes", "anomaly fork 1 1 0 ( x ) 0 plain pl1", "level pl1", "answer no"},
		skew:    {"txns 3", "unique yes", "anomaly g2 0 0 0 ( ) 0 plain pl3 [ 0 rw 1 ( y ) 0 2 nil sure ] [ 1 rw 0 ( x ) 0 1 nil sure ]", "level pl3", "answer no"},
		aborted: {"txns 2", "unique yes", "anomaly aborted 1 0 0 ( x ) 1 plain pl2", "level pl2", "answer no"},
		between: {
			"txns 4", "unique yes",
			"anomaly single 0 0 0 ( ) 0 plain pl2plus [ 0 rw 2 ( x ) 1 2 value sure ] [ 2 ww 0 ( x ) 2 3 value sure ]",
			"anomaly g2 0 0 0 ( ) 0 plain pl3 [ 0 rw 2 ( x ) 1 2 value sure ] [ 2 ww 0 ( x ) 2 3 value sure ]",
			"level pl2plus", "answer no",
		},
		twice:  {"txns 3", "unique no", "level none", "answer yes ( 0 1 2 )"},
		done:   {"txns 2", "unique yes", "level none", "answer yes ( 0 1 )"},
		undone: {"txns 2", "unique yes", "level none", "answer yes ( 1 )"},
	} {
		text = strings.ReplaceAll(text, "\t", "")
		want := strings.Join(lines, "\n") + "\n"
		wantText(t, "search steps 99", text, want)
		wantText(t, "search real steps 99", text, want)
		last := lines[len(lines)-1]
		wantText(t, "real steps 99", text, strings.Replace(want, last, "answer none", 1))
		if strings.HasPrefix(last, "answer yes") {
			wantText(t, "search", text, strings.Replace(want, last, "answer unknown", 1))
			wantText(t, "search steps 99 steps -1", text, strings.Replace(want, last, "answer unknown", 1))
		}
	}
	wantRefused(t, "", short, len(short), api.ErrToken)
}

// P24.2: the fifth example is wrong only with real time.
func TestReal(t *testing.T) {
	text := strings.ReplaceAll(late, "\t", "")
	wantText(t, "", text, "txns 3\nunique yes\nlevel none\nanswer none\n")
	cycle := "( ) 0 real strict [ 1 rw 0 ( x ) 0 1 nil sure ] [ 0 rt 1 ( ) 0 0 value sure ]\n"
	wantText(t, "real", text, "txns 3\nunique yes\nanomaly single 0 0 0 "+cycle+"anomaly g2 0 0 0 "+cycle+"level strict\nanswer none\n")
	wantText(t, "search steps 9", text, "txns 3\nunique yes\nlevel none\nanswer no\n")
}

// P24.2: with echo the history stands ahead, in its one form.
func TestEcho(t *testing.T) {
	text := "\n  invoke 3[read x][get   p]\n\n\nok 3 [read x(1 -2)][get p nil]\ninvoke 4 [append x 5]"
	echo := "invoke 3 [ read x ] [ get p ]\nok 3 [ read x ( 1 -2 ) ] [ get p nil ]\ninvoke 4 [ append x 5 ]\n"
	out, err := Run("real", text)
	if err != nil || strings.Contains(out, "invoke") {
		t.Fatal(out, err)
	}
	for _, options := range []string{"real echo", "echo real", "echo echo real"} {
		wantText(t, options, text, echo+out)
	}
	wantText(t, "real echo", echo, echo+out)
}

// P24.2: the fault that is told is the first one of all: of the options, of the text, of the events.
func TestFirstFault(t *testing.T) {
	unpaired := "invoke 0 [read x]\nok 1 [read x ()]\n"
	wantRefused(t, "real x", "A", 5, api.ErrWord)
	wantRefused(t, "steps", short, 5, api.ErrWord)
	wantRefused(t, "real,", unpaired, 4, api.ErrChar)
	wantRefused(t, "steps 9223372036854775808", "", 6, api.ErrBig)
	wantRefused(t, strings.Repeat(" ", api.MaxText+1), "A", 0, api.ErrFull)
	for _, options := range []string{"", "echo", "real search steps 9 echo"} {
		wantRefused(t, options, unpaired+"A", len(unpaired), api.ErrChar)
		wantRefused(t, options, unpaired+"7", len(unpaired), api.ErrToken)
		wantRefused(t, options, unpaired+"invoke 0 [append x 9223372036854775808]", len(unpaired)+19, api.ErrBig)
		wantRefused(t, options, unpaired, 1, api.ErrNone)
		wantRefused(t, options, "ok 0 [read x]", 0, api.ErrNone)
		wantRefused(t, options, "\n\ninvoke 0 [read x]\n\ninvoke 0 [read x]\n", 1, api.ErrOpen)
		wantRefused(t, options, "invoke 0 [read x]\ninfo 0 [read x]\ninvoke 0 [read x]\n", 2, api.ErrOpen)
		wantRefused(t, options, "invoke 0 [read x]\nok 0 [read y ()]\n", 1, api.ErrMatch)
		wantRefused(t, options, "invoke 0 [read x]\ninvoke 1 [get x]\n", 1, api.ErrMixed)
		wantRefused(t, options, strings.Repeat(" ", api.MaxText+1), 0, api.ErrFull)
		wantRefused(t, options, strings.Repeat("invoke 0 [read x]\n", 301), 5400, api.ErrFull)
	}
}

// wrong is a text of so many reads of a value twice that nobody wrote: two anomalies each; then of so many reads of it once: one anomaly each.
func wrong(two, one int) string {
	var b strings.Builder
	for n := range two + one {
		key, values := "x", "(1 1)"
		if n >= two {
			key, values = "y", "(1)"
		}
		if n%api.MaxOps == 0 {
			b.WriteString("\n")
		}
		b.WriteString("[read " + key + values + "]")
	}
	var out strings.Builder
	for _, line := range strings.Split(b.String(), "\n")[1:] {
		asked := strings.NewReplacer("(1 1)", "", "(1)", "").Replace(line)
		out.WriteString("invoke 0" + asked + "\nok 0" + line + "\n")
	}
	return out.String()
}

// P24.2: of 1000 anomalies there is a report, of more there is none.
func TestThousand(t *testing.T) {
	for _, c := range []struct{ two, one int }{{500, 0}, {499, 2}, {0, 9}} {
		many := 2*c.two + c.one
		for _, options := range []string{"", "real", "echo"} {
			s, err := Run(options, wrong(c.two, c.one))
			if err != nil || strings.Count(s, "anomaly") != many || !strings.HasSuffix(s, "level pl1\nanswer none\n") {
				t.Error(options, c, err, strings.Count(s, "anomaly"), s[max(0, len(s)-100):])
			}
		}
	}
	for _, c := range []struct{ two, one int }{{500, 1}, {501, 0}, {550, 9}} {
		for _, options := range []string{"", "real", "search", "echo", "echo search steps 9 real"} {
			wantRefused(t, options, wrong(c.two, c.one), 0, api.ErrArg)
		}
	}
}

// P24.2: a history as long as may be, whose text is longer behind than ahead of it.
func TestLong(t *testing.T) {
	var b strings.Builder
	for n := range 150 {
		k := strconv.Itoa(n)
		b.WriteString("invoke 0[append x" + k + " " + k + "][read x" + k + "][write p" + k + " 1]\n")
		b.WriteString("ok 0[append x" + k + " " + k + "][read x" + k + "(" + k + ")][write p" + k + " 1]\n")
	}
	text := b.String()
	if len(text) > api.MaxText {
		t.Fatal(len(text))
	}
	s, err := Run("echo real search steps 200000", text)
	l, _ := histtext.Parse(text)
	if err != nil || !strings.HasPrefix(s, histtext.Print(l)+"txns 150\nunique yes\nlevel none\nanswer yes ( 0 1 2 ") {
		t.Fatal(s, err)
	}
}
