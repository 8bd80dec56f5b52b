package sim

import (
	"math/rand"
	"testing"

	"assayer/api"
	"assayer/histtext"
	"assayer/pair"
	"assayer/search"
	"assayer/verdict"
)

// judged is the report of a run, which must come to one.
func judged(t *testing.T, l []api.Event, o api.Options) api.Report {
	t.Helper()
	r, err := verdict.Judge(l, o)
	if err != nil {
		t.Fatal(histtext.Print(l), err)
	}
	return r
}

// run1 is a run of a mix at random.
func run1(t *testing.T, r *rand.Rand, mode int, m mix) []api.Event {
	t.Helper()
	l, why := Run(mode, plansOf(r, m), picksOf(r, m))
	if why != api.OK {
		t.Fatal(why)
	}
	return l
}

// P6: of the store that does one transaction at a time there is no anomaly, whatever it does, and the search says yes.
func TestSerialIsRight(t *testing.T) {
	r := rand.New(rand.NewSource(61))
	for n := range 3000 {
		m := anything(r)
		if n%20 == 0 {
			m.plans, m.ops = 1+r.Intn(maxPlans), api.MaxOps
		}
		l := run1(t, r, api.ModeSerial, m)
		got := judged(t, l, api.Options{Real: true, Search: true, Steps: api.MaxSteps})
		if len(got.Anomalies) != 0 || got.Level != api.LevelNone || got.Answer != api.AnswerYes {
			t.Fatal(histtext.Print(l), got)
		}
		if x, err := pair.Txns(l); err != nil || !search.Right(x, got.Order) {
			t.Fatal(histtext.Print(l), got, err)
		}
	}
}

// cyclesOf is how often cycles of each kind are told of runs over lists, with real time and without.
func cyclesOf(t *testing.T, r *rand.Rand, mode int) [12]int {
	t.Helper()
	var seen [12]int
	for n := range 8000 {
		m := anything(r)
		m.kinds, m.values = [][]int{{1, 2}, {1, 2, 2}, {1, 1, 2}}[r.Intn(3)], 1000
		if n%100 == 0 {
			m.plans, m.ops = 40+r.Intn(40), 3
		}
		l := run1(t, r, mode, m)
		for _, real := range []bool{false, true} {
			for _, a := range judged(t, l, api.Options{Real: real}).Anomalies {
				seen[a.Kind]++
			}
		}
	}
	return seen
}

// P6: of the snapshot one, over lists, there is no cycle with fewer than two reads that were written over; but there are some with two.
func TestSnapshotCycles(t *testing.T) {
	seen := cyclesOf(t, rand.New(rand.NewSource(62)), api.ModeSnapshot)
	for kind, many := range seen {
		if kind != api.AnG2 && many > 0 {
			t.Error("kind", kind, many)
		}
	}
	if seen[api.AnG2] < 100 {
		t.Error("too few", seen)
	}
}

// P6: of the one that reads what is committed, over lists, there is none without any.
func TestCommitCycles(t *testing.T) {
	seen := cyclesOf(t, rand.New(rand.NewSource(63)), api.ModeCommit)
	if seen[api.AnG0] > 0 || seen[api.AnG1c] > 0 {
		t.Error(seen)
	}
	if seen[api.AnSingle] < 100 || seen[api.AnG2] < 100 {
		t.Error("too few", seen)
	}
}

// The one that reads what is not committed shows that there would be others to be seen.
func TestDirtyCycles(t *testing.T) {
	seen := cyclesOf(t, rand.New(rand.NewSource(64)), api.ModeDirty)
	for _, kind := range []int{api.AnAborted, api.AnMiddle, api.AnG0, api.AnG1c, api.AnSingle, api.AnG2} {
		if seen[kind] < 100 {
			t.Error("too few", kind, seen)
		}
	}
}
