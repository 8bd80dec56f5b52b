package levels

import (
	"math"
	"testing"

	"assayer/api"
)

// some are numbers round about the levels and the kinds, and far from them.
var some = []int{math.MinInt, -100, -2, -1, 0, 1, 2, 3, 4, 5, 6, 7, 8, 9, 10, 11, 12, 13, 255, 256, 1 << 32, math.MaxInt}

// P18.1: each kind, with real time, plain and sure, plain and not sure.
func TestRefutes(t *testing.T) {
	const p1, p2, p2p, p3, st = api.LevelPL1, api.LevelPL2, api.LevelPL2P, api.LevelPL3, api.LevelStrict
	want := map[int][3]int{
		api.AnInternal: {p1, p1, p1}, api.AnGarbage: {p1, p1, p1}, api.AnTwice: {p1, p1, p1}, api.AnFork: {p1, p1, p1},
		api.AnAborted: {p2, p2, p2}, api.AnMiddle: {p2, p2, p2}, api.AnOrder: {p3, p3, p3},
		api.AnG0: {st, p1, p2}, api.AnG1c: {st, p2, p2}, api.AnSingle: {st, p2p, p2p}, api.AnG2: {st, p3, p3},
	}
	if len(want) != 11 {
		t.Fatal(len(want))
	}
	for _, kind := range some {
		got := [3]int{Refutes(kind, true, true), Refutes(kind, false, true), Refutes(kind, false, false)}
		if got != want[kind] || Refutes(kind, true, false) != got[0] {
			t.Error(kind, got, Refutes(kind, true, false))
		}
	}
}

// P18.2
func TestLowest(t *testing.T) {
	for _, c := range [][3]int{
		{0, 3, 3}, {3, 0, 3}, {4, 2, 2}, {2, 4, 2}, {1, 5, 1}, {5, 5, 5}, {0, 0, 0}, {0, 5, 5}, {1, 1, 1},
		{6, 5, 5}, {-1, 5, 5}, {5, -1, 5}, {7, -1, 0}, {6, 6, 0}, {-1, 0, 0}, {0, 6, 0}, {math.MinInt, 4, 4}, {4, math.MaxInt, 4}, {math.MinInt, math.MaxInt, 0},
	} {
		if n := Lowest(c[0], c[1]); n != c[2] {
			t.Error(c, n)
		}
	}
}

// P18.2: what is told is one of the two, or none; nothing lower is among them.
func TestLowestOfAll(t *testing.T) {
	rank := func(level int) int {
		if level < 1 || level > 5 {
			return 6
		}
		return level
	}
	for _, a := range some {
		for _, b := range some {
			if n := Lowest(a, b); n < 0 || n > 5 || rank(n) != min(rank(a), rank(b)) {
				t.Error(a, b, n)
			}
		}
	}
}

// P18.2
func TestNames(t *testing.T) {
	want := map[int]string{api.LevelNone: "none", api.LevelPL1: "pl1", api.LevelPL2: "pl2", api.LevelPL2P: "pl2plus", api.LevelPL3: "pl3", api.LevelStrict: "strict"}
	for _, level := range some {
		name := Name(level)
		if name != want[level] {
			t.Error(level, name)
		}
		if n, ok := Of(name); ok != (name != "") || ok && n != level || !ok && n != 0 {
			t.Error(level, name, n, ok)
		}
	}
	for _, name := range []string{"", " ", "pl", "pl0", "pl4", "pl2p", "PL1", "pl1 ", " pl1", "pl2plus2", "nones", "non", "strict\n", "\x00", "None"} {
		if n, ok := Of(name); n != 0 || ok {
			t.Errorf("%q: %d", name, n)
		}
	}
}

// P18.2: a level allows what refutes only higher ones; the lowest of the six, none, all of the eleven kinds.
func TestAllows(t *testing.T) {
	for _, level := range some {
		for _, kind := range some {
			for flags := range 4 {
				real, sure := flags&1 != 0, flags&2 != 0
				known := level >= 0 && level <= 5 && kind >= api.AnInternal && kind <= api.AnG2
				if ok := Allows(level, kind, real, sure); ok != (known && level < Refutes(kind, real, sure)) {
					t.Error(level, kind, real, sure, ok)
				}
			}
		}
	}
	for name, c := range map[string]struct {
		level, kind int
		real, sure  bool
		want        bool
	}{
		"below":                    {api.LevelPL1, api.AnG1c, false, true, true},
		"just it":                  {api.LevelPL2, api.AnG1c, false, true, false},
		"above":                    {api.LevelPL3, api.AnG1c, false, true, false},
		"with real time":           {api.LevelPL3, api.AnG1c, true, true, true},
		"with real time, just it":  {api.LevelStrict, api.AnG1c, true, true, false},
		"sure":                     {api.LevelPL1, api.AnG0, false, true, false},
		"not sure":                 {api.LevelPL1, api.AnG0, false, false, true},
		"none allows":              {api.LevelNone, api.AnInternal, false, true, true},
		"no kind":                  {api.LevelNone, 0, false, false, false},
		"no kind, above":           {api.LevelNone, 12, true, true, false},
		"no level":                 {-1, api.AnG2, false, true, false},
		"no level, above":          {6, api.AnG2, true, true, false},
		"the highest, not allowed": {api.LevelStrict, api.AnG2, false, true, false},
	} {
		if Allows(c.level, c.kind, c.real, c.sure) != c.want {
			t.Error(name)
		}
	}
}

// P18.3
func TestAllowedByLower(t *testing.T) {
	for kind := api.AnInternal; kind <= api.AnG2; kind++ {
		for flags := range 4 {
			real, sure := flags&1 != 0, flags&2 != 0
			for level := api.LevelPL1; level <= api.LevelStrict; level++ {
				if Allows(level, kind, real, sure) && !Allows(level-1, kind, real, sure) {
					t.Error(level, kind, real, sure)
				}
			}
		}
	}
}

// P18.4: by twos, and by threes.
func TestLowestInAnyOrder(t *testing.T) {
	for _, a := range some {
		for _, b := range some {
			if Lowest(a, b) != Lowest(b, a) {
				t.Error(a, b)
			}
			for _, c := range some {
				if Lowest(Lowest(a, b), c) != Lowest(a, Lowest(b, c)) {
					t.Error(a, b, c)
				}
			}
		}
	}
}
