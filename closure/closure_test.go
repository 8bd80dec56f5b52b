package closure

import (
	"math"
	"math/rand"
	"slices"
	"testing"

	"assayer/api"
)

// step is a pair that is added.
type step struct {
	a, b int
	sure bool
}

func order(t *testing.T, n int, steps ...step) *Order {
	t.Helper()
	o, e := New(n)
	if o == nil || e != api.OK {
		t.Fatalf("New(%d): %v, %d", n, o, e)
	}
	for _, s := range steps {
		if e := o.Add(s.a, s.b, s.sure); e != api.OK {
			t.Fatalf("Add(%v): %d", s, e)
		}
	}
	return o
}

// follows is what follows of pairs, found by going from each thing on until nothing new comes.
func follows(n int, steps []step) [][]bool {
	m := make([][]bool, n)
	for from := range m {
		m[from] = make([]bool, n)
		work := []int{from}
		for len(work) > 0 {
			at := work[0]
			work = work[1:]
			for _, s := range steps {
				if s.a == at && !m[from][s.b] {
					m[from][s.b] = true
					work = append(work, s.b)
				}
			}
		}
	}
	return m
}

// check holds all that an order tells against what follows of its pairs.
func check(t *testing.T, o *Order, n int, steps []step) {
	t.Helper()
	less := follows(n, steps)
	sure := follows(n, slices.DeleteFunc(slices.Clone(steps), func(s step) bool { return !s.sure }))
	var pairs [][2]int
	cyclic := false
	for a := range n {
		for b := range n {
			if o.Less(a, b) != less[a][b] || o.Sure(a, b) != sure[a][b] {
				t.Fatalf("%v: %d, %d: %v, %v", steps, a, b, o.Less(a, b), o.Sure(a, b))
			}
			if less[a][b] {
				pairs = append(pairs, [2]int{a, b})
			}
		}
		cyclic = cyclic || less[a][a]
	}
	if o.Cyclic() != cyclic || !slices.Equal(o.Pairs(), pairs) {
		t.Fatalf("%v: %v, %v, not %v, %v", steps, o.Cyclic(), o.Pairs(), cyclic, pairs)
	}
}

// P11.1
func TestNew(t *testing.T) {
	for _, n := range []int{-1, api.MaxNodes + 1, 4096, math.MinInt, math.MaxInt} {
		if o, e := New(n); o != nil || e != api.ErrArg {
			t.Errorf("New(%d): %v, %d", n, o, e)
		}
	}
	for _, n := range []int{0, 1, 2, 64, 65, api.MaxNodes} {
		o := order(t, n)
		check(t, o, n, nil)
		if e := o.Add(n, n, true); e != api.ErrArg {
			t.Error(n, e)
		}
	}
}

// P11.1: a thing that is not there, and that nothing has changed.
func TestNotThere(t *testing.T) {
	steps := []step{{0, 1, true}, {1, 3, false}}
	o := order(t, 4, steps...)
	for _, at := range []int{-1, 4, 5, 64, -64, math.MinInt, math.MaxInt} {
		for _, sure := range []bool{false, true} {
			if o.Add(at, 0, sure) != api.ErrArg || o.Add(0, at, sure) != api.ErrArg || o.Add(at, at, sure) != api.ErrArg {
				t.Error("added", at)
			}
		}
		for other := range 4 {
			if o.Less(at, other) || o.Less(other, at) || o.Less(at, at) || o.Sure(at, other) || o.Sure(other, at) || o.Sure(at, at) {
				t.Error(at, other)
			}
		}
	}
	check(t, o, 4, steps)
}

// P11.2: the chapter's example.
func TestExample(t *testing.T) {
	o := order(t, 3, step{0, 1, true}, step{1, 2, false})
	if !o.Less(0, 2) || o.Sure(0, 2) || !o.Sure(0, 1) || o.Sure(1, 2) || o.Cyclic() {
		t.Fatal(o.Pairs())
	}
}

// P11.2
func TestSteps(t *testing.T) {
	for name, c := range map[string]struct {
		steps  []step
		cyclic bool
	}{
		"none":                  {nil, false},
		"one":                   {[]step{{2, 0, false}}, false},
		"twice":                 {[]step{{0, 1, false}, {0, 1, false}}, false},
		"sure afterwards":       {[]step{{0, 1, false}, {0, 1, true}}, false},
		"stays sure":            {[]step{{0, 1, true}, {0, 1, false}}, false},
		"sure by another way":   {[]step{{0, 1, false}, {1, 2, false}, {0, 3, true}, {3, 2, true}}, false},
		"sure behind not sure":  {[]step{{0, 1, false}, {1, 2, false}, {0, 2, true}, {2, 3, true}}, false},
		"ahead of itself":       {[]step{{1, 1, false}}, true},
		"surely ahead":          {[]step{{1, 1, true}, {1, 2, true}}, true},
		"there and back":        {[]step{{0, 1, true}, {1, 0, false}}, true},
		"surely there and back": {[]step{{0, 1, true}, {1, 0, true}, {3, 1, true}}, true},
		"round":                 {[]step{{0, 1, true}, {1, 2, true}, {2, 3, true}, {3, 0, false}}, true},
		"two halves":            {[]step{{0, 1, true}, {2, 3, true}, {1, 2, true}}, false},
	} {
		o := order(t, 4, c.steps...)
		if o.Cyclic() != c.cyclic {
			t.Errorf("%s: %v", name, o.Cyclic())
		}
		check(t, o, 4, c.steps)
	}
}

// P11.2 to P11.4: against what follows, step by step, and with the steps in other orders.
func TestAtRandom(t *testing.T) {
	r := rand.New(rand.NewSource(11))
	cyclic := 0
	for range 1500 {
		n := 1 + r.Intn(9)
		if r.Intn(20) == 0 {
			n = 60 + r.Intn(10)
		}
		var steps []step
		o := order(t, n)
		for range r.Intn(2*n + 1) {
			s := step{r.Intn(n), r.Intn(n), r.Intn(3) > 0}
			if s.a >= s.b && r.Intn(4) > 0 {
				s.a, s.b = s.b, s.a
			}
			steps = append(steps, s)
			if e := o.Add(s.a, s.b, s.sure); e != api.OK {
				t.Fatal(s, e)
			}
			if n < 10 {
				check(t, o, n, steps)
			}
		}
		check(t, o, n, steps)
		if o.Cyclic() {
			cyclic++
		}
		r.Shuffle(len(steps), func(i, j int) { steps[i], steps[j] = steps[j], steps[i] })
		check(t, order(t, n, steps...), n, steps)
		goesOn(t, o, n)
	}
	if cyclic < 200 || cyclic > 1300 {
		t.Fatal(cyclic)
	}
}

// goesOn holds P11.3, and that nothing is sure without Less (P11.4), against an order.
func goesOn(t *testing.T, o *Order, n int) {
	t.Helper()
	for a := range n {
		for b := range n {
			if o.Sure(a, b) && !o.Less(a, b) {
				t.Fatal(a, b)
			}
			for c := range n {
				if o.Less(a, b) && o.Less(b, c) && !o.Less(a, c) || o.Sure(a, b) && o.Sure(b, c) && !o.Sure(a, c) {
					t.Fatal(a, b, c)
				}
			}
		}
	}
}

// Limits: as many things as there may be, in one row, and then round.
func TestMost(t *testing.T) {
	const n = api.MaxNodes
	o := order(t, n)
	for _, a := range rand.New(rand.NewSource(7)).Perm(n - 1) {
		o.Add(a, a+1, a%2 == 0)
	}
	if o.Cyclic() || len(o.Pairs()) != n*(n-1)/2 || !o.Less(0, n-1) || !o.Sure(n-2, n-1) || o.Sure(0, 2) {
		t.Fatal(o.Cyclic(), len(o.Pairs()))
	}
	o.Add(n-1, 0, true)
	if !o.Cyclic() || len(o.Pairs()) != n*n || !o.Sure(n-2, 1) || o.Sure(1, 2) {
		t.Fatal(o.Cyclic(), len(o.Pairs()))
	}
}

// Objects: those that no call made.
func TestObjects(t *testing.T) {
	for _, o := range []*Order{nil, {}} {
		for _, at := range []int{0, -1, 1} {
			if o.Add(at, at, true) != api.ErrNil || o.Add(0, at, false) != api.ErrNil || o.Less(at, 0) || o.Sure(0, at) {
				t.Error(at)
			}
		}
		if o.Cyclic() || len(o.Pairs()) != 0 {
			t.Error("pairs out of nothing")
		}
	}
}

// Memory: answers are new, and orders are apart from one another.
func TestMemory(t *testing.T) {
	o, other := order(t, 3, step{0, 1, true}), order(t, 3)
	l := o.Pairs()
	clear(l[:cap(l)])
	o.Add(1, 2, false)
	check(t, o, 3, []step{{0, 1, true}, {1, 2, false}})
	check(t, other, 3, nil)
	if l[0] != [2]int{} {
		t.Fatal(l)
	}
}
