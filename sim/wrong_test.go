package sim

import (
	"math"
	"math/rand"
	"slices"
	"strconv"
	"strings"
	"testing"

	"assayer/api"
	"assayer/histtext"
)

// wantError fails unless a run is refused, with nothing beside the error.
func wantError(t *testing.T, name string, mode int, plans [][]api.Plan, want api.Errno) {
	t.Helper()
	if l, why := Run(mode, plans, []int{1, 2, 3}); why != want || len(l) != 0 {
		t.Errorf("%s, mode %d: %v, error %d, want %d", name, mode, l, why, want)
	}
}

// wantRun fails unless a run comes to so many events.
func wantRun(t *testing.T, name string, mode int, plans [][]api.Plan, many int) {
	t.Helper()
	if l, why := Run(mode, plans, []int{1, 2, 3}); why != api.OK || len(l) != many {
		t.Errorf("%s, mode %d: %d events, error %d, want %d", name, mode, len(l), why, many)
	}
}

// some is so many plans that read.
func some(many int) []api.Plan { return slices.Repeat([]api.Plan{plan("[read x]")}, many) }

// P23.1
func TestModes(t *testing.T) {
	for _, mode := range []int{0, -1, 5, 6, math.MaxInt, math.MinInt, 1 << 32, 1<<32 + 1} {
		wantError(t, "mode", mode, [][]api.Plan{some(1)}, api.ErrArg)
		wantError(t, "nothing", mode, nil, api.ErrArg)
		wantError(t, "ahead of too many", mode, make([][]api.Plan, 9), api.ErrArg)
		wantError(t, "ahead of all else", mode, [][]api.Plan{some(999), {{}}, {plan("[append x 1] [get x]")}}, api.ErrArg)
	}
}

// P23.1: eight clients may be, whether they have plans or not; half of MaxEvents plans, whoever has them.
func TestTooMany(t *testing.T) {
	for _, mode := range modes {
		wantRun(t, "eight", mode, slices.Repeat([][]api.Plan{some(1)}, 8), 16)
		wantError(t, "nine", mode, slices.Repeat([][]api.Plan{some(1)}, 9), api.ErrFull)
		wantError(t, "nine without a plan", mode, make([][]api.Plan, 9), api.ErrFull)
		wantError(t, "many", mode, make([][]api.Plan, 100000), api.ErrFull)
		wantRun(t, "150 of one", mode, [][]api.Plan{some(150)}, 300)
		wantError(t, "151 of one", mode, [][]api.Plan{some(151)}, api.ErrFull)
		wantRun(t, "150 of three", mode, [][]api.Plan{some(50), nil, some(99), some(1)}, 300)
		wantError(t, "151 of three", mode, [][]api.Plan{some(50), nil, some(100), some(1)}, api.ErrFull)
		wantError(t, "151, most of whom nobody would do", mode, [][]api.Plan{append([]api.Plan{lost("[read x]")}, some(150)...)}, api.ErrFull)
		wantError(t, "very many", mode, [][]api.Plan{make([]api.Plan, 1000000), make([]api.Plan, 1)}, api.ErrFull)
		wantError(t, "nine, ahead of what is wrong", mode, slices.Repeat([][]api.Plan{{{}}}, 9), api.ErrFull)
		wantError(t, "151, ahead of what is wrong", mode, [][]api.Plan{{{}}, some(150)}, api.ErrFull)
		wantError(t, "151, ahead of what is mixed", mode, [][]api.Plan{{plan("[append x 1] [get x]")}, some(150)}, api.ErrFull)
	}
}

// P23.1: a plan has 1 to MaxOps operations.
func TestManyOps(t *testing.T) {
	for _, mode := range modes {
		wantError(t, "none", mode, [][]api.Plan{{{}}}, api.ErrArg)
		wantError(t, "an empty list", mode, [][]api.Plan{{{Ops: []api.Op{}, Abort: true, Lost: true}}}, api.ErrArg)
		wantError(t, "the last one of many", mode, [][]api.Plan{some(3), nil, append(some(3), api.Plan{})}, api.ErrArg)
		wantError(t, "one that nobody would do", mode, [][]api.Plan{{lost("[read x]"), {}}}, api.ErrArg)
		wantRun(t, "eight", mode, [][]api.Plan{{plan(strings.Repeat("[read x]", 8))}}, 2)
		wantError(t, "nine", mode, [][]api.Plan{{{Ops: slices.Repeat(some(1)[0].Ops, 9)}}}, api.ErrArg)
		wantError(t, "very many", mode, [][]api.Plan{{{Ops: slices.Repeat(some(1)[0].Ops, 1000000)}}}, api.ErrArg)
	}
}

// P23.1: an operation that may not be, and a read or a get that tells something already, wherever it stands.
func TestWrongOps(t *testing.T) {
	for name, o := range map[string]api.Op{
		"no kind":              {Key: "x"},
		"kind 5":               {Kind: 5, Key: "x"},
		"kind -1":              {Kind: -1, Key: "x"},
		"a great kind":         {Kind: math.MaxInt, Key: "x"},
		"no key":               {Kind: api.OpRead},
		"a long key":           {Kind: api.OpRead, Key: "abcdefg"},
		"a key that is none":   {Kind: api.OpRead, Key: "1x"},
		"two words":            {Kind: api.OpGet, Key: "a b"},
		"a blank":              {Kind: api.OpGet, Key: "a "},
		"a great letter":       {Kind: api.OpWrite, Key: "X"},
		"an append of a list":  {Kind: api.OpAppend, Key: "x", Value: 1, List: []int{1}},
		"an append with Has":   {Kind: api.OpAppend, Key: "x", Value: 1, Has: true},
		"an append with Nil":   {Kind: api.OpAppend, Key: "x", Value: 1, Nil: true},
		"a write of a list":    {Kind: api.OpWrite, Key: "x", Value: 1, List: []int{1}},
		"a write with Has":     {Kind: api.OpWrite, Key: "x", Value: 1, Has: true},
		"a write with Nil":     {Kind: api.OpWrite, Key: "x", Value: 1, Nil: true},
		"a read with a value":  {Kind: api.OpRead, Key: "x", Value: 1},
		"a read with Nil":      {Kind: api.OpRead, Key: "x", Nil: true},
		"a read with a list":   {Kind: api.OpRead, Key: "x", List: []int{1}},
		"a read with Has":      {Kind: api.OpRead, Key: "x", Has: true},
		"a read with it all":   {Kind: api.OpRead, Key: "x", Has: true, List: []int{1}},
		"a get with a list":    {Kind: api.OpGet, Key: "x", List: []int{1}},
		"a get with a value":   {Kind: api.OpGet, Key: "x", Value: 1},
		"a get with Nil":       {Kind: api.OpGet, Key: "x", Nil: true},
		"a get with Has":       {Kind: api.OpGet, Key: "x", Has: true},
		"a get with Has, Nil":  {Kind: api.OpGet, Key: "x", Has: true, Nil: true},
		"a get with its value": {Kind: api.OpGet, Key: "x", Has: true, Value: 1},
	} {
		for _, mode := range modes {
			wantError(t, name, mode, [][]api.Plan{{{Ops: []api.Op{o}}}}, api.ErrArg)
			last := api.Plan{Ops: append(plan("[read y] [append y 1]").Ops, o)}
			wantError(t, name, mode, [][]api.Plan{some(1), {lost("[read x]"), plan("[write z 1]"), last}}, api.ErrArg)
			mixed := plan("[append y 1] [get y]")
			wantError(t, name+", behind what is mixed", mode, [][]api.Plan{{mixed, last}}, api.ErrArg)
		}
	}
	for _, o := range []api.Op{
		{Kind: api.OpAppend, Key: "abc456", Value: math.MinInt},
		{Kind: api.OpAppend, Key: "x", List: []int{}},
		{Kind: api.OpRead, Key: "nil"},
		{Kind: api.OpRead, Key: "x", List: []int{}},
		{Kind: api.OpWrite, Key: "z9", Value: math.MaxInt},
		{Kind: api.OpWrite, Key: "x"},
		{Kind: api.OpGet, Key: "x"},
	} {
		for _, mode := range modes {
			wantRun(t, "may be", mode, [][]api.Plan{{{Ops: []api.Op{o}}}}, 2)
		}
	}
}

// P23.1: which operations may be is what layer 2 says.
func TestOpsAtRandom(t *testing.T) {
	r := rand.New(rand.NewSource(231))
	seen := [2]int{}
	for range 20000 {
		o := api.Op{Kind: r.Intn(6), Key: []string{"x", "x", "x", "", "X", "abcdefg"}[r.Intn(6)]}
		if r.Intn(2) == 0 {
			o.Value, o.List = r.Intn(2), make([]int, r.Intn(2))
		}
		if r.Intn(2) == 0 {
			o.Has, o.Nil = r.Intn(2) == 0, r.Intn(2) == 0
		}
		can := histtext.Can([]api.Event{{Kind: api.EvInvoke, Ops: []api.Op{o}}}) && !o.Has
		if can {
			seen[1]++
			wantRun(t, "at random", 1+r.Intn(4), [][]api.Plan{{{Ops: []api.Op{o}}}}, 2)
		} else {
			seen[0]++
			wantError(t, "at random", 1+r.Intn(4), [][]api.Plan{{{Ops: []api.Op{o}}}}, api.ErrArg)
		}
	}
	if min(seen[0], seen[1]) < 2000 {
		t.Fatal("too much alike", seen)
	}
}

// P23.1: a key in operations of lists and of registers: of one plan, of two, of two clients, of plans that nobody would do.
func TestMixed(t *testing.T) {
	for _, a := range []string{"[append x 1]", "[read x]"} {
		for _, b := range []string{"[write x 1]", "[get x]"} {
			for _, mode := range modes {
				wantError(t, "one plan", mode, [][]api.Plan{{plan(a + b)}}, api.ErrMixed)
				wantError(t, "one plan, the other way round", mode, [][]api.Plan{{plan(b + "[read y]" + a)}}, api.ErrMixed)
				wantError(t, "two plans", mode, [][]api.Plan{{plan(a), plan("[get y]"), plan(b)}}, api.ErrMixed)
				wantError(t, "two clients", mode, [][]api.Plan{{plan(b)}, nil, {plan(a)}}, api.ErrMixed)
				wantError(t, "undone", mode, [][]api.Plan{{abort(b), lost("[read y]"), plan(a)}}, api.ErrMixed)
				wantRun(t, "two keys", mode, [][]api.Plan{{plan(a + strings.ReplaceAll(b, "x", "y"))}, {plan(strings.ReplaceAll(b, "x", "xx"))}}, 4)
				full := slices.Repeat([]api.Plan{plan("[append z 1]")}, 41)
				wantError(t, "ahead of a long list", mode, [][]api.Plan{full, {plan(a), plan(b)}}, api.ErrMixed)
			}
		}
	}
}

// appends is so many appends to a list, in plans of one client.
func appends(key string, many int) []api.Plan {
	var l []api.Plan
	for n := range many {
		l = append(l, plan("[append "+key+" "+strconv.Itoa(n)+"]"))
	}
	return l
}

// P23.1: MaxList appends to each list may be, in all plans together, done or not; of registers any number.
func TestLongLists(t *testing.T) {
	for _, mode := range modes {
		wantRun(t, "40", mode, [][]api.Plan{appends("x", 40)}, 80)
		wantError(t, "41", mode, [][]api.Plan{appends("x", 41)}, api.ErrFull)
		wantRun(t, "40 each", mode, [][]api.Plan{appends("x", 40), appends("y", 40), appends("z", 39)}, 238)
		wantError(t, "41 of two clients", mode, [][]api.Plan{appends("y", 20), appends("x", 20), appends("x", 21)}, api.ErrFull)
		wantError(t, "41 with one that fails", mode, [][]api.Plan{append(appends("x", 40), abort("[append x 1]"))}, api.ErrFull)
		wantError(t, "41 with one that nobody would do", mode, [][]api.Plan{append([]api.Plan{lost("[read x]")}, appends("x", 41)...)}, api.ErrFull)
		wantRun(t, "writes", mode, [][]api.Plan{slices.Repeat([]api.Plan{plan(strings.Repeat("[write p 1]", 8))}, 150)}, 300)
		wantRun(t, "reads", mode, [][]api.Plan{slices.Repeat([]api.Plan{plan(strings.Repeat("[read p]", 8))}, 150)}, 300)
		l, _ := Run(mode, [][]api.Plan{append(appends("x", 40), plan("[read x]"))}, nil)
		if len(l) != 82 || len(l[81].Ops[0].List) != api.MaxList || !histtext.Can(l) {
			t.Error("40 that are read", mode)
		}
	}
}
