package scan

import (
	"errors"
	"math"
	"regexp"
	"slices"
	"strconv"
	"strings"
	"testing"

	"assayer/api"
)

// wantFault fails unless an error is that fault, as a value, with that number alone in it.
func wantFault(t *testing.T, what string, err error, at int, why api.Errno) {
	t.Helper()
	if f, ok := err.(api.Fault); !ok || f != (api.Fault{At: at, Why: why}) {
		t.Fatalf("%q: %v, want error %d at %d", what, err, why, at)
	}
	for n := api.Errno(0); n < 300; n++ {
		if errors.Is(err, n) != (n == why) {
			t.Fatalf("%q: errors.Is of %d", what, n)
		}
	}
}

// forShort calls f with all texts of up to n of the letters.
func forShort(letters string, n int, f func(s string)) {
	texts := []string{""}
	for range n + 1 {
		var longer []string
		for _, s := range texts {
			f(s)
			for i := range len(letters) {
				longer = append(longer, s+letters[i:i+1])
			}
		}
		texts = longer
	}
}

const letters = "az019-([\n A"

func word(at int, s string) api.Token { return api.Token{Kind: api.TokWord, At: at, Text: s} }
func mark(at int, s string) api.Token { return api.Token{Kind: api.TokMark, At: at, Text: s} }
func line(at int) api.Token           { return api.Token{Kind: api.TokLine, At: at, Text: "\n"} }
func num(at int, s string, n int) api.Token {
	return api.Token{Kind: api.TokNumber, At: at, Text: s, Number: n}
}

// P1.1
func TestScanTokens(t *testing.T) {
	for _, x := range []struct {
		s    string
		want []api.Token
	}{
		{"", nil},
		{"   ", nil},
		{"ok 3 [a -5]", []api.Token{word(0, "ok"), num(3, "3", 3), mark(5, "["), word(6, "a"), num(8, "-5", -5), mark(10, "]")}},
		{"az09z", []api.Token{word(0, "az09z")}},
		{"a-5", []api.Token{word(0, "a"), num(1, "-5", -5)}},
		{"5-3", []api.Token{num(0, "5", 5), num(1, "-3", -3)}},
		{"0-1", []api.Token{num(0, "0", 0), num(1, "-1", -1)}},
		{"100", []api.Token{num(0, "100", 100)}},
		{"0(0)", []api.Token{num(0, "0", 0), mark(1, "("), num(2, "0", 0), mark(3, ")")}},
		{"0 0", []api.Token{num(0, "0", 0), num(2, "0", 0)}},
		{"()[]", []api.Token{mark(0, "("), mark(1, ")"), mark(2, "["), mark(3, "]")}},
		{"\n\na\n", []api.Token{line(0), line(1), word(2, "a"), line(3)}},
		{"9\n8", []api.Token{num(0, "9", 9), line(1), num(2, "8", 8)}},
		{"9223372036854775807", []api.Token{num(0, "9223372036854775807", math.MaxInt64)}},
		{"-9223372036854775808", []api.Token{num(0, "-9223372036854775808", math.MinInt64)}},
	} {
		got, err := Scan(x.s)
		if err != nil || !slices.Equal(got, x.want) {
			t.Errorf("%q: %v, %v", x.s, got, err)
		}
	}
}

// P1.1
func TestScanFaults(t *testing.T) {
	for _, x := range []struct {
		s   string
		at  int
		why api.Errno
	}{
		{"03", 1, api.ErrChar},
		{"00", 1, api.ErrChar},
		{"0a", 1, api.ErrChar},
		{"a 5b", 3, api.ErrChar},
		{"12z", 2, api.ErrChar},
		{"-12z", 3, api.ErrChar},
		{"5A", 1, api.ErrChar},
		{"a_", 1, api.ErrChar},
		{"-", 0, api.ErrChar},
		{" -0", 1, api.ErrChar},
		{"-01", 0, api.ErrChar},
		{"--1", 0, api.ErrChar},
		{"- 1", 0, api.ErrChar},
		{"-a", 0, api.ErrChar},
		{"1-", 1, api.ErrChar},
		{"a\tb", 1, api.ErrChar},
		{"a\r\n", 1, api.ErrChar},
		{"aé", 1, api.ErrChar},
		{"a A -", 2, api.ErrChar},
		{" 9223372036854775808", 1, api.ErrBig},
		{" -9223372036854775809", 1, api.ErrBig},
		{"9223372036854775808a", 0, api.ErrBig},
		{"A 9223372036854775808", 0, api.ErrChar},
		{strings.Repeat("9", api.MaxText), 0, api.ErrBig},
	} {
		got, err := Scan(x.s)
		wantFault(t, x.s, err, x.at, x.why)
		if len(got) != 0 {
			t.Errorf("%q: tokens beside a fault: %v", x.s, got)
		}
	}
}

// P1.1
func TestScanEachByte(t *testing.T) {
	const begins = "abcdefghijklmnopqrstuvwxyz0123456789()[]\n"
	for c := range 256 {
		s := string([]byte{byte(c)})
		got, err := Scan(s)
		switch {
		case strings.Contains(begins, s):
			if err != nil || len(got) != 1 || got[0].Text != s {
				t.Errorf("%q: %v, %v", s, got, err)
			}
		case s == " ":
			if err != nil || len(got) != 0 {
				t.Errorf("a blank: %v, %v", got, err)
			}
		default:
			wantFault(t, s, err, 0, api.ErrChar)
		}
	}
}

// P1.1
func TestScanLimit(t *testing.T) {
	for _, s := range []string{"a", "(", " ", "\n"} {
		if _, err := Scan(strings.Repeat(s, api.MaxText)); err != nil {
			t.Errorf("%d of %q: %v", api.MaxText, s, err)
		}
	}
	for _, s := range []string{"a", " ", "A", "0", "9"} {
		got, err := Scan(strings.Repeat(s, api.MaxText+1))
		wantFault(t, "one too many of "+s, err, 0, api.ErrFull)
		if len(got) != 0 {
			t.Error("tokens beside a fault")
		}
	}
}

// P1.1, held against expressions that say the same in another way.
func TestScanAgainstExpressions(t *testing.T) {
	blank := regexp.MustCompile(`^ +`)
	kinds := []struct {
		kind int
		is   *regexp.Regexp
	}{
		{api.TokWord, regexp.MustCompile(`^[a-z][a-z0-9]*`)},
		{api.TokNumber, regexp.MustCompile(`^(0|-?[1-9][0-9]*)`)},
		{api.TokMark, regexp.MustCompile(`^[()\[\]]`)},
		{api.TokLine, regexp.MustCompile(`^\n`)},
	}
	forShort(letters, 5, func(s string) {
		var want []api.Token
		bad := -1
		for at := 0; at < len(s) && bad < 0; {
			if b := blank.FindString(s[at:]); b != "" {
				at += len(b)
				continue
			}
			bad = at
			for _, k := range kinds {
				text := k.is.FindString(s[at:])
				if text == "" {
					continue
				}
				n, _ := strconv.Atoi(text)
				want = append(want, api.Token{Kind: k.kind, At: at, Text: text, Number: n})
				at, bad = at+len(text), -1
				if k.kind == api.TokNumber && regexp.MustCompile(`^[a-z0-9]`).MatchString(s[at:]) {
					bad = at
				}
			}
		}
		got, err := Scan(s)
		if bad >= 0 {
			if err != error(api.Fault{At: bad, Why: api.ErrChar}) || len(got) != 0 {
				t.Fatalf("%q: %v, %v, want a fault at %d", s, got, err, bad)
			}
		} else if err != nil || !slices.Equal(got, want) {
			t.Fatalf("%q: %v, %v", s, got, err)
		}
	})
}

// P1.2
func TestPrint(t *testing.T) {
	for _, x := range []struct {
		l    []api.Token
		want string
	}{
		{nil, ""},
		{[]api.Token{word(0, "a")}, "a"},
		{[]api.Token{word(7, "a"), mark(0, "["), num(0, "", 3), mark(-1, "]")}, "a [ 3 ]"},
		{[]api.Token{mark(0, "("), mark(1, "("), line(2), line(3), mark(4, ")")}, "( (\n\n)"},
		{[]api.Token{line(0), word(1, "a"), line(2), word(3, "b")}, "\na\nb"},
		{[]api.Token{num(0, "7", 5), num(0, "x", math.MinInt64), num(0, "", math.MaxInt64)}, "5 -9223372036854775808 9223372036854775807"},
		{[]api.Token{{Kind: api.TokWord, Text: "Not A Word"}, {Kind: api.TokMark, Text: "{"}, {Kind: api.TokLine, Text: "x"}}, "Not A Word {\n"},
		{[]api.Token{{Kind: 0, Text: "x"}, word(0, "a"), {Kind: 5, Text: "x"}, {Kind: -1, Text: "x", Number: 3}, word(0, "b"), {Kind: math.MaxInt}}, "a b"},
		{[]api.Token{{Kind: 9}, {Kind: 10}}, ""},
	} {
		if got := Print(x.l); got != x.want {
			t.Errorf("%v: %q", x.l, got)
		}
	}
}

// P1.3: the printed text is one of at most MaxText bytes here; a longer one is none that Scan reads (P1.1).
func TestThereAndBack(t *testing.T) {
	back := func(s string) {
		l, err := Scan(s)
		if err != nil {
			return
		}
		again, err := Scan(Print(l))
		if err != nil || !samePlacesAside(l, again) {
			t.Fatalf("%q: %v, %v", s, again, err)
		}
	}
	forShort(letters, 5, back)
	back("-9223372036854775808[9223372036854775807]a1(0)\n\n  b-1\n")
	back(strings.Repeat("a", api.MaxText))
	back(strings.Repeat("\n", api.MaxText))
	back(strings.Repeat("[", api.MaxText/2))
}

// P1.4
func TestBlanksAhead(t *testing.T) {
	forShort(letters, 4, func(s string) {
		l, err := Scan(s)
		for _, n := range []int{1, 5} {
			moved, movedErr := Scan(strings.Repeat(" ", n) + s)
			if err != nil {
				f := err.(api.Fault)
				wantFault(t, s, movedErr, f.At+n, f.Why)
				continue
			}
			if movedErr != nil || !samePlacesAside(l, moved) {
				t.Fatalf("%q: %v, %v", s, moved, movedErr)
			}
			for i := range l {
				if moved[i].At != l[i].At+n {
					t.Fatalf("%q: %v", s, moved[i])
				}
			}
		}
	})
}

func samePlacesAside(a, b []api.Token) bool {
	return slices.EqualFunc(a, b, func(x, y api.Token) bool {
		x.At, y.At = 0, 0
		return x == y
	})
}

// What is handed in stays as it is, the room behind its end too.
func TestPrintChangesNothing(t *testing.T) {
	l := []api.Token{word(0, "a"), num(2, "x", 3), {Kind: 7}, line(4)}
	kept := slices.Clone(l)
	Print(l[:2])
	if !slices.Equal(l, kept) {
		t.Error(l)
	}
}
