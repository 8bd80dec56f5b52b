package desk

import (
	"math/rand"
	"slices"
	"strings"
	"testing"

	"assayer/api"
	"assayer/histtext"
	"assayer/model"
	"assayer/pair"
	"assayer/report"
	"assayer/search"
	"assayer/sim"
	"assayer/verdict"
)

// history is one of the simulated store's, of so many plans.
func history(r *rand.Rand, many int) []api.Event {
	plans := make([][]api.Plan, 1+r.Intn(4))
	for value := range many {
		var p api.Plan
		for range 1 + r.Intn(3) {
			o := api.Op{Kind: 1 + r.Intn(4), Key: []string{"x", "y"}[r.Intn(2)]}
			if o.Kind == api.OpWrite || o.Kind == api.OpGet {
				o.Key = "p"
			}
			if o.Kind == api.OpWrite || o.Kind == api.OpAppend {
				o.Value = value%(1+r.Intn(12)) - 1
			}
			p.Ops = append(p.Ops, o)
		}
		p.Abort, p.Lost = r.Intn(9) == 0, r.Intn(9) == 0
		n := r.Intn(len(plans))
		plans[n] = append(plans[n], p)
	}
	picks := make([]int, r.Intn(5*many+1))
	for i := range picks {
		picks[i] = r.Intn(9) - 3
	}
	l, why := sim.Run(1+r.Intn(4), plans, picks)
	if why != api.OK {
		panic(why)
	}
	return l
}

// someOptions is options at random that are right.
func someOptions(r *rand.Rand) string {
	return strings.Join([][]string{nil, {"real"}, {"search steps 2000"}, {"real search steps 3"}, {"search"}}[r.Intn(5)], " ") + []string{"", " echo"}[r.Intn(2)]
}

// soup is any bytes, any tokens, or a right text with some of its bytes made others.
func soup(r *rand.Rand, right string) string {
	var b strings.Builder
	switch r.Intn(4) {
	case 0:
		for range r.Intn(40) {
			b.WriteByte(byte(r.Intn(256)))
		}
	case 1:
		parts := strings.Fields("real search steps echo invoke ok fail info append read write get nil x y p 0 1 -2 99 100 ( ) [ ]")
		for range r.Intn(12) {
			b.WriteString(parts[r.Intn(len(parts))])
			b.WriteString([]string{" ", " ", " ", "", "\n"}[r.Intn(5)])
		}
	case 2:
		l := []byte(right)
		for range 1 + r.Intn(3) {
			if len(l) > 0 {
				l[r.Intn(len(l))] = "xp01-[]() \nA\xff"[r.Intn(13)]
			}
		}
		b.Write(l)
	default:
		lines := strings.SplitAfter(right, "\n")
		at, to := r.Intn(len(lines)), r.Intn(len(lines))
		lines[at], lines[to] = lines[to], lines[at]
		b.WriteString(strings.Join(lines[r.Intn(2):], ""))
		if r.Intn(4) == 0 {
			b.WriteString("invoke 50 [get x]\n")
		}
	}
	return b.String()
}

// cut is what a command told, in two: the history that echo puts ahead, and the report.
func cut(s string) (string, string) {
	at := strings.Index(s, "txns ")
	return s[:at], s[at:]
}

// P1, P24.2: any options and any text come to a fault with a place, or to a report that is the judge's; what is printed is read again as it was.
func TestAnyBytes(t *testing.T) {
	r := rand.New(rand.NewSource(1))
	seen := map[api.Errno]int{}
	for range 60000 {
		options, text := someOptions(r), histtext.Print(history(r, r.Intn(7)))
		if r.Intn(3) == 0 {
			options = soup(r, options)
		}
		if r.Intn(3) > 0 {
			text = soup(r, text)
		}
		s, err := Run(options, text)
		if again, err2 := Run(options, text); again != s || err2 != err {
			t.Fatalf("%q, %q: not the same twice", options, text)
		}
		if err != nil {
			f, ok := err.(api.Fault)
			if !ok || s != "" || f.Why == api.OK || f.At < 0 || f.At > max(len(options), len(text)) || !isFault(err, f.At, f.Why) {
				t.Fatalf("%q, %q: %q, %v", options, text, s, err)
			}
			seen[f.Why]++
			continue
		}
		seen[api.OK]++
		o, echo, err := Parse(options)
		if err != nil {
			t.Fatalf("%q, %q: %v", options, text, err)
		}
		l, err := histtext.Parse(text)
		if err != nil {
			t.Fatalf("%q, %q: %v", options, text, err)
		}
		ahead, rest := cut(s)
		if !echo && ahead != "" || echo && ahead != histtext.Print(l) {
			t.Fatalf("%q, %q: %q", options, text, ahead)
		}
		if back, err := histtext.Parse(ahead); err != nil || echo && !histtext.Same(back, l) {
			t.Fatalf("%q: %v", ahead, err)
		}
		want, err := verdict.Judge(l, o)
		if got, err2 := report.Parse(rest); err != nil || err2 != nil || !report.Same(got, want) {
			t.Fatalf("%q, %q: %v, %v", options, text, err, err2)
		}
	}
	for _, why := range []api.Errno{api.OK, api.ErrChar, api.ErrToken, api.ErrOpen, api.ErrNone, api.ErrMatch, api.ErrMixed, api.ErrWord} {
		if seen[why] < 20 {
			t.Error("too few", why, seen)
		}
	}
}

// before tells whether an order of transactions may go on by another one, ahead of some that are left.
func before(l []api.Txn, n int, left []int) bool {
	return !slices.ContainsFunc(left, func(m int) bool {
		return l[m].State == api.TxOk && l[m].To >= 0 && l[m].To < l[n].From
	})
}

// exists tells whether there is an order, by trying all: each that is left may be next; one of unknown end may be left out.
func exists(l []api.Txn, left []int, s *model.State) bool {
	if !slices.ContainsFunc(left, func(n int) bool { return l[n].State == api.TxOk }) {
		return true
	}
	for i, n := range left {
		rest := slices.Delete(slices.Clone(left), i, i+1)
		next := s.Copy()
		if before(l, n, rest) && next.Apply(l[n].Ops, l[n].State == api.TxInfo) && exists(l, rest, next) {
			return true
		}
	}
	return false
}

// P5: yes comes with an order that the model replays and that keeps real time; no means that there is none; unknown is told only when the steps were used up.
func TestAnswers(t *testing.T) {
	r := rand.New(rand.NewSource(5))
	seen := [4]int{}
	for range 6000 {
		l := history(r, r.Intn(6))
		x, err := pair.Txns(l)
		if err != nil {
			t.Fatal(err)
		}
		var left []int
		for n := range x {
			if x[n].State != api.TxFail {
				left = append(left, n)
			}
		}
		is := exists(x, left, model.New())
		for _, options := range []string{"search steps 2000", "search steps 3", "search"} {
			s, err := Run(options, histtext.Print(l))
			if err != nil {
				t.Fatal(l, err)
			}
			got, err := report.Parse(s)
			if err != nil {
				t.Fatal(s, err)
			}
			seen[got.Answer]++
			switch got.Answer {
			case api.AnswerYes:
				if !is || !search.Right(x, got.Order) || !model.Replay(x, got.Order) {
					t.Fatal(histtext.Print(l), got)
				}
			case api.AnswerNo:
				if is {
					t.Fatal(histtext.Print(l), got)
				}
			default:
				o, _, _ := Parse(options)
				if a, _, steps := search.Search(x, o.Steps); a != got.Answer || steps != o.Steps || options == "search steps 2000" {
					t.Fatal(histtext.Print(l), got, steps)
				}
			}
		}
	}
	if slices.Min(seen[1:]) < 200 {
		t.Fatal("too much alike", seen)
	}
}
