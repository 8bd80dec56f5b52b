package sim

import (
	"math"
	"slices"
	"strconv"
	"strings"
	"testing"

	"assayer/api"
	"assayer/histtext"
)

var modes = [4]int{api.ModeSerial, api.ModeSnapshot, api.ModeCommit, api.ModeDirty}

// plan is a transaction of operations as in a history's text.
func plan(operations string) api.Plan {
	l, err := histtext.Parse("invoke 0 " + operations)
	if err != nil {
		panic(operations)
	}
	return api.Plan{Ops: l[0].Ops}
}

func abort(operations string) api.Plan {
	p := plan(operations)
	p.Abort = true
	return p
}

func lost(operations string) api.Plan {
	p := plan(operations)
	p.Lost = true
	return p
}

// wantHistory fails unless a run comes to the history of a text (with or without blanks at its lines' beginnings).
func wantHistory(t *testing.T, name string, mode int, plans [][]api.Plan, picks []int, text string) {
	t.Helper()
	want, err := histtext.Parse(strings.ReplaceAll(text, "\t", ""))
	if err != nil {
		t.Fatal(name, err)
	}
	l, why := Run(mode, plans, picks)
	if why != api.OK || !histtext.Same(l, want) {
		t.Errorf("%s, mode %d: error %d\n%swant\n%s", name, mode, why, histtext.Print(l), histtext.Print(want))
	}
}

// P23.1: nothing to do is done.
func TestNothing(t *testing.T) {
	for _, mode := range modes {
		for _, plans := range [][][]api.Plan{nil, {}, {nil}, {{}, nil, {}}, make([][]api.Plan, 8)} {
			for _, picks := range [][]int{nil, {}, {3, -1}} {
				wantHistory(t, "nothing", mode, plans, picks, "")
			}
		}
	}
}

// P23.1: a client alone does its plans one behind the other, in each mode.
func TestAlone(t *testing.T) {
	plans := [][]api.Plan{nil, {
		plan("[append x 1] [read x] [append x 2] [read x] [get p] [read y]"),
		plan("[write p 0] [get p] [write p -7] [get p] [read x]"),
		plan("[get p] [get q] [append x 1]"),
		plan("[read x]"),
	}}
	for _, mode := range modes {
		wantHistory(t, "alone", mode, plans, []int{5, -3, 0}, `
			invoke 1 [append x 1] [read x] [append x 2] [read x] [get p] [read y]
			ok 1 [append x 1] [read x (1)] [append x 2] [read x (1 2)] [get p nil] [read y ()]
			invoke 1 [write p 0] [get p] [write p -7] [get p] [read x]
			ok 1 [write p 0] [get p 0] [write p -7] [get p -7] [read x (1 2)]
			invoke 1 [get p] [get q] [append x 1]
			ok 1 [get p -7] [get q nil] [append x 1]
			invoke 1 [read x]
			ok 1 [read x (1 2 1)]`)
	}
}

// P23.1: what is not done stays undone, but of ModeDirty; a client goes on behind a fail, and not behind an info, of which all is done.
func TestEnds(t *testing.T) {
	plans := [][]api.Plan{
		{abort("[append x 1] [read x] [write p 1] [get p]"), plan("[read x] [get p]"), lost("[append x 2] [write p 2] [read x]"), plan("[append x 3]"), abort("[append x 4]")},
		{plan("[read x] [get p]"), plan("[append x 5]")},
	}
	clean := `
		invoke 0 [append x 1] [read x] [write p 1] [get p]
		fail 0 [append x 1] [read x] [write p 1] [get p]
		invoke 0 [read x] [get p]
		ok 0 [read x ()] [get p nil]
		invoke 0 [append x 2] [write p 2] [read x]
		info 0 [append x 2] [write p 2] [read x]
		invoke 1 [read x] [get p]
		ok 1 [read x (2)] [get p 2]
		invoke 1 [append x 5]
		ok 1 [append x 5]`
	for _, mode := range modes[:3] {
		wantHistory(t, "ends", mode, plans, nil, clean)
	}
	dirty := strings.NewReplacer("[read x ()] [get p nil]", "[read x (1)] [get p 1]", "(2)", "(1 2)").Replace(clean)
	wantHistory(t, "ends", api.ModeDirty, plans, nil, dirty)
	both := plan("[append x 1]")
	both.Abort, both.Lost = true, true
	for _, mode := range modes[:3] {
		wantHistory(t, "abort goes first", mode, [][]api.Plan{{both, plan("[read x]")}}, nil, `
			invoke 0 [append x 1]
			fail 0 [append x 1]
			invoke 0 [read x]
			ok 0 [read x ()]`)
	}
}

// P23.1: two clients, turn by turn: what a read sees of the other one's writes, ahead of its end and behind it.
func TestSees(t *testing.T) {
	plans := [][]api.Plan{
		{plan("[append x 1] [write p 1]")},
		{plan("[append y 9] [read x] [get p] [read x] [get p] [read y]")},
	}
	// Both begin, 0 does its writes, 1 appends and reads two; 0 ends; 1 goes on.
	picks := []int{0, 1, 0, 0, 1, 1, 1, 0}
	for mode, reads := range map[int]string{
		api.ModeSnapshot: "[read x ()] [get p nil] [read x ()] [get p nil]",
		api.ModeCommit:   "[read x ()] [get p nil] [read x (1)] [get p 1]",
		api.ModeDirty:    "[read x (1)] [get p 1] [read x (1)] [get p 1]",
	} {
		wantHistory(t, "sees", mode, plans, picks, `
			invoke 0 [append x 1] [write p 1]
			invoke 1 [append y 9] [read x] [get p] [read x] [get p] [read y]
			ok 0 [append x 1] [write p 1]
			ok 1 [append y 9] `+reads+` [read y (9)]`)
	}
	wantHistory(t, "sees", api.ModeSerial, plans, picks, `
		invoke 0 [append x 1] [write p 1]
		ok 0 [append x 1] [write p 1]
		invoke 1 [append y 9] [read x] [get p] [read x] [get p] [read y]
		ok 1 [append y 9] [read x (1)] [get p 1] [read x (1)] [get p 1] [read y (9)]`)
}

// P23.1: its own writes stand behind what others did, however late that was.
func TestOwnWrites(t *testing.T) {
	plans := [][]api.Plan{
		{plan("[append x 1] [write p 1]")},
		{plan("[append x 2] [write p 2] [read x] [get p]"), plan("[read x] [get p]")},
	}
	// Both begin, 1 does its writes; 0 does its own and ends; 1 reads.
	picks := []int{0, 1, 1, 1, 0, 0, 0}
	begin := `
		invoke 0 [append x 1] [write p 1]
		invoke 1 [append x 2] [write p 2] [read x] [get p]
		ok 0 [append x 1] [write p 1]
		`
	wantHistory(t, "own", api.ModeCommit, plans, picks, begin+`ok 1 [append x 2] [write p 2] [read x (1 2)] [get p 2]
		invoke 1 [read x] [get p]
		ok 1 [read x (1 2)] [get p 2]`)
	wantHistory(t, "own", api.ModeSnapshot, plans, picks, begin+`fail 1 [append x 2] [write p 2] [read x] [get p]
		invoke 1 [read x] [get p]
		ok 1 [read x (1)] [get p 1]`)
	wantHistory(t, "own", api.ModeDirty, plans, picks, begin+`ok 1 [append x 2] [write p 2] [read x (2 1)] [get p 1]
		invoke 1 [read x] [get p]
		ok 1 [read x (2 1)] [get p 1]`)
}

// P23.1: ModeSnapshot: who wrote a key that somebody else wrote since its beginning fails; be it the same value, be it of unknown end, be it one key of many. Reads, other keys, and what failed or was written ahead of its beginning play no part.
func TestFirstWriterWins(t *testing.T) {
	for name, c := range map[string]struct {
		first, second api.Plan
		want          int
	}{
		"a list":                      {plan("[append x 1]"), plan("[append x 2]"), api.EvFail},
		"a register":                  {plan("[write p 1]"), plan("[write p 2]"), api.EvFail},
		"the same value":              {plan("[write p 1]"), plan("[write p 1]"), api.EvFail},
		"the first key of two":        {plan("[write p 1] [write q 1]"), plan("[write p 2] [append x 1]"), api.EvFail},
		"the second key of two":       {plan("[write p 1] [append x 1]"), plan("[write q 2] [append x 2]"), api.EvFail},
		"of unknown end":              {lost("[append x 1]"), plan("[append x 2]"), api.EvFail},
		"of unknown end itself":       {plan("[append x 1]"), lost("[append x 2]"), api.EvFail},
		"one that gave up":            {abort("[append x 1]"), plan("[append x 2]"), api.EvOk},
		"one that gives up":           {plan("[append x 1]"), abort("[append x 2]"), api.EvFail},
		"another list":                {plan("[append x 1]"), plan("[append y 2]"), api.EvOk},
		"another register":            {plan("[write p 1]"), plan("[write q 2]"), api.EvOk},
		"read there":                  {plan("[read x] [get p]"), plan("[append x 2] [write p 1]"), api.EvOk},
		"read here":                   {plan("[append x 1] [write p 1]"), plan("[read x] [get p]"), api.EvOk},
		"read here, and another":      {plan("[append x 1] [write p 1]"), plan("[read x] [get p] [write q 1]"), api.EvOk},
		"another, of unknown end":     {plan("[append x 1]"), lost("[append y 2]"), api.EvInfo},
		"a key that begins the other": {plan("[append x 1]"), plan("[append xx 2]"), api.EvOk},
	} {
		plans := [][]api.Plan{{plan("[append x 7] [append y 7] [write p 7] [write q 7]"), c.first}, {c.second}}
		// What 0 wrote ahead of 1's beginning; then 0 and 1 begin; 0 comes to its end, and then 1.
		picks := append(make([]int, 6), 0, 1)
		l, why := Run(api.ModeSnapshot, plans, picks)
		if why != api.OK || len(l) != 6 || l[3].Proc != 1 || l[4].Proc != 0 {
			t.Fatal(name, l, why)
		}
		if l[5].Kind != c.want || l[5].Proc != 1 {
			t.Error(name, histtext.Print(l))
		}
	}
}

// P23.1: ModeSnapshot: what is written since then is written by others; two writes of its own to one key are none.
func TestOwnKeyTwice(t *testing.T) {
	wantHistory(t, "twice", api.ModeSnapshot, [][]api.Plan{{plan("[append x 1] [append x 2]"), plan("[append x 3] [append x 4]")}, {plan("[read x]")}}, nil, `
		invoke 0 [append x 1] [append x 2]
		ok 0 [append x 1] [append x 2]
		invoke 0 [append x 3] [append x 4]
		ok 0 [append x 3] [append x 4]
		invoke 1 [read x]
		ok 1 [read x (1 2 3 4)]`)
}

// order is the processes of a run's events.
func order(l []api.Event) string {
	var b strings.Builder
	for _, e := range l {
		b.WriteString(strconv.Itoa(e.Proc))
	}
	return b.String()
}

// P23.1: who goes on is at a pick's place among the ready ones: as a number below 2^64, over how many are ready.
func TestPicks(t *testing.T) {
	three := [][]api.Plan{{plan("[read x]")}, {plan("[read x]")}, {plan("[read x]")}}
	for name, c := range map[string]struct {
		plans [][]api.Plan
		picks []int
		want  string
	}{
		"none":                      {three, nil, "001122"},
		"in turn":                   {three, []int{0, 1, 2, 0, 1, 2}, "012012"},
		"over three":                {three, []int{3, 4, 5, 6, 7, 8}, "012012"},
		"backwards":                 {three, []int{2, 2, 2, 1, 1, 1, 0, 0, 0}, "221100"},
		"too many":                  {three, []int{2, 2, 2, 1, 1, 1, 0, 0, 0, 1, 2}, "221100"},
		"too few":                   {three, []int{2, 1}, "210012"},
		"-1 over three: 0":          {three, []int{-1, -1, -1}, "001122"},
		"-2 over three: 2":          {three, []int{-2, -2, -2}, "220011"},
		"-3 over three: 1":          {three, []int{-3, -3, -3}, "110022"},
		"the least over three: 2":   {three, []int{math.MinInt64}, "200112"},
		"the greatest over three":   {three, []int{math.MaxInt64}, "100122"},
		"the greatest below -1":     {three, []int{math.MaxInt64 - 1}, "001122"},
		"who has nothing left":      {[][]api.Plan{{plan("[read x]")}, nil, {plan("[read x]")}}, []int{1, 1, 1, 1}, "2200"},
		"who is lost":               {[][]api.Plan{{lost("[read x]"), plan("[read x]")}, {plan("[read x]")}}, nil, "0011"},
		"over two where one is":     {three[:2], []int{1, 3, 5, 1, 1, 1}, "1100"},
		"-1 over two: 1":            {three[:2], []int{-1, -1, -1}, "1100"},
		"eight, the last one first": {slices.Repeat(three[:1], 8), []int{7, 15, -1}, "7700112233445566"},
	} {
		for _, mode := range modes[1:] {
			if l, why := Run(mode, c.plans, c.picks); why != api.OK || order(l) != c.want {
				t.Errorf("%s, mode %d: %s, error %d, want %s", name, mode, order(l), why, c.want)
			}
		}
	}
}

// P23.1: ModeSerial: while one is open there is but one place; each turn of it takes a pick all the same.
func TestPicksOfSerial(t *testing.T) {
	plans := [][]api.Plan{{plan("[read x] [read x]"), plan("[read x]")}, {plan("[read x]")}, {plan("[read x]")}}
	for _, c := range []struct {
		picks []int
		want  string
	}{
		{nil, "00001122"},
		{[]int{0, 1, 2, 1, 2}, "00220011"},
		{[]int{1, 1, 1, 1}, "11220000"},
		{[]int{1, 0, 0, 1, -7, 5, 0, 0, 9, 4, 1, 1}, "11220000"},
		{[]int{0, 0, 0, 0, 2, 0, 0, 1}, "00221100"},
	} {
		if l, why := Run(api.ModeSerial, plans, c.picks); why != api.OK || order(l) != c.want {
			t.Errorf("%v: %s, error %d, want %s", c.picks, order(l), why, c.want)
		}
	}
}

// P23.1: the chapter's example.
func TestExample(t *testing.T) {
	wantHistory(t, "example", api.ModeDirty, [][]api.Plan{{abort("[append x 1]")}, {plan("[read x]")}}, []int{0, 0, 1, 1, 1}, `
		invoke 0 [append x 1]
		invoke 1 [read x]
		ok 1 [read x (1)]
		fail 0 [append x 1]`)
}
