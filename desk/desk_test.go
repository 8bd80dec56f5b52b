package desk

import (
	"errors"
	"math"
	"math/rand"
	"strconv"
	"strings"
	"testing"

	"assayer/api"
)

// isFault tells whether an error is that fault, as a value, with that number alone in it.
func isFault(err error, at int, why api.Errno) bool {
	if f, ok := err.(api.Fault); !ok || f != (api.Fault{At: at, Why: why}) {
		return false
	}
	for n := api.Errno(0); n < 300; n++ {
		if errors.Is(err, n) != (n == why) {
			return false
		}
	}
	return true
}

// wantOptions fails unless a text asks for that.
func wantOptions(t *testing.T, s string, o api.Options, echo bool) {
	t.Helper()
	if got, e, err := Parse(s); got != o || e != echo || err != nil {
		t.Errorf("%q: %v, %v, %v, want %v, %v", s, got, e, err, o, echo)
	}
}

// wantFault fails unless options are refused with that fault, and nothing beside it.
func wantFault(t *testing.T, s string, at int, why api.Errno) {
	t.Helper()
	if o, echo, err := Parse(s); o != (api.Options{}) || echo || !isFault(err, at, why) {
		t.Errorf("%q: %v, %v, %v, want error %d at %d", s, o, echo, err, why, at)
	}
}

// P24.1
func TestParse(t *testing.T) {
	for s, o := range map[string]api.Options{
		"":                           {},
		"   ":                        {},
		"real":                       {Real: true},
		"  real  ":                   {Real: true},
		"search":                     {Search: true},
		"steps 0":                    {},
		"steps 7":                    {Steps: 7},
		"steps -7":                   {Steps: -7},
		"steps-7":                    {Steps: -7},
		"steps     7     ":           {Steps: 7},
		"steps 9223372036854775807":  {Steps: math.MaxInt64},
		"steps -9223372036854775808": {Steps: math.MinInt64},
		"real search":                {Real: true, Search: true},
		"search steps 5 real":        {Real: true, Search: true, Steps: 5},
		"real real real":             {Real: true},
		"steps 1 steps 2 search":     {Search: true, Steps: 2},
		"steps 2 search steps 1":     {Search: true, Steps: 1},
		"steps 2 real steps 0":       {Real: true},
	} {
		wantOptions(t, s, o, false)
		for _, with := range []string{"echo " + s, s + " echo", "echo echo " + s + " echo"} {
			wantOptions(t, with, o, true)
		}
	}
	long := strings.Repeat("real ", api.MaxText/5)
	wantOptions(t, long, api.Options{Real: true}, false)
	wantFault(t, long+" ", 0, api.ErrFull)
}

// P24.1: what is none of the words, at its place; a number that is missing, at the end.
func TestParseFaults(t *testing.T) {
	for s, at := range map[string]int{
		"reals": 0, "rea": 0, "rea l": 0, "real1": 0, "x": 0, "nil": 0, "option": 0, "step 3": 0, "echos": 0, "a0": 0,
		"  unreal": 2, "real reals": 5, "real search echo steps 3 x y": 25, "real real1 x": 5, "realsearch": 0,
		"0": 0, "7": 0, "-7": 0, "real 7": 5, "steps 7 8": 8, "steps 7 -8": 8, "7 steps": 0,
		"(": 0, ")": 0, "[": 0, "]": 0, "[real]": 0, "real]": 4, "real [": 5, "steps 7 ]": 8, "( )": 0,
		"\n": 0, "real\n": 4, "real\nsearch": 4, "\nreal": 0, " \n": 1, "steps 7\n": 7, "steps\n7": 5,
		"steps": 5, "steps ": 6, "   steps   ": 11, "real steps": 10, "steps 3 steps": 13,
		"steps real": 6, "steps steps": 6, "steps steps 3": 6, "steps x": 6, "steps (": 6, "steps [7]": 6, "steps(": 5, "steps echo 7": 6,
		"x steps": 0, "steps x steps": 6,
	} {
		wantFault(t, s, at, api.ErrWord)
	}
}

// P24.1: layer 1's faults go first, wherever they stand.
func TestScanFaults(t *testing.T) {
	wantFault(t, "A", 0, api.ErrChar)
	wantFault(t, "x y A", 4, api.ErrChar)
	wantFault(t, "real,search", 4, api.ErrChar)
	wantFault(t, "real\tsearch", 4, api.ErrChar)
	wantFault(t, "steps 3real", 7, api.ErrChar)
	wantFault(t, "steps 03", 7, api.ErrChar)
	wantFault(t, "steps -", 6, api.ErrChar)
	wantFault(t, "steps - 3", 6, api.ErrChar)
	wantFault(t, "steps -0", 6, api.ErrChar)
	wantFault(t, "steps 1.5", 7, api.ErrChar)
	wantFault(t, "x \x00", 2, api.ErrChar)
	wantFault(t, "real \xff", 5, api.ErrChar)
	wantFault(t, "Real", 0, api.ErrChar)
	wantFault(t, "steps 9223372036854775808", 6, api.ErrBig)
	wantFault(t, "x steps -9223372036854775809", 8, api.ErrBig)
	wantFault(t, strings.Repeat("A", api.MaxText+1), 0, api.ErrFull)
}

// P24.1: texts of any tokens; what they ask for, or where the first one is wrong, is found while they are put together.
func TestParseAtRandom(t *testing.T) {
	r := rand.New(rand.NewSource(241))
	words := []string{"real", "search", "echo", "real", "search", "echo", "steps", "steps", "steps", "x", "[", "\n", "(", "7"}
	seen := [2]int{}
	for range 20000 {
		var b strings.Builder
		var o api.Options
		echo, at := false, -1
		wrong := func() {
			if at < 0 {
				at = b.Len()
			}
		}
		for range r.Intn(8) {
			b.WriteString(strings.Repeat(" ", 1+r.Intn(2)))
			w := words[r.Intn(len(words))]
			switch w {
			case "real":
				o.Real = true
			case "search":
				o.Search = true
			case "echo":
				echo = true
			case "steps":
				b.WriteString("steps ")
				o.Steps = r.Intn(2000) - 1000
				w = strconv.Itoa(o.Steps)
				if r.Intn(12) == 0 {
					wrong()
					w = []string{"steps", "real", "]", "\n", ""}[r.Intn(5)]
				}
			default:
				wrong()
			}
			b.WriteString(w)
			if w == "" {
				break
			}
		}
		s := b.String()
		if at < 0 {
			seen[1]++
			wantOptions(t, s, o, echo)
			continue
		}
		seen[0]++
		wantFault(t, s, at, api.ErrWord)
	}
	if min(seen[0], seen[1]) < 3000 {
		t.Fatal("too much alike", seen)
	}
}
