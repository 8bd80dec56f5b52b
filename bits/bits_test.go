package bits

import (
	"math"
	"math/rand"
	"slices"
	"testing"

	"assayer/api"
)

// bounds are those where words end, and the limits.
var bounds = []int{0, 1, 2, 63, 64, 65, 70, 127, 128, 129, 300, 4095, 4096}

func set(t *testing.T, n int, l ...int) *Set {
	t.Helper()
	s, e := New(n)
	if s == nil || e != api.OK {
		t.Fatalf("New(%d): %v, %d", n, s, e)
	}
	for _, i := range l {
		if e := s.Add(i); e != api.OK {
			t.Fatalf("Add(%d) to a set of bound %d: %d", i, n, e)
		}
	}
	return s
}

// check holds all that a set tells of itself against what it should be.
func check(t *testing.T, s *Set, n int, want ...int) {
	t.Helper()
	if s.Bound() != n || s.Count() != len(want) || !slices.Equal(s.List(), want) {
		t.Fatalf("bound %d, count %d, %v, and not bound %d, %v", s.Bound(), s.Count(), s.List(), n, want)
	}
	for i := -2; i < n+70; i++ {
		if s.Has(i) != slices.Contains(want, i) {
			t.Fatalf("%v: Has(%d) %v", want, i, s.Has(i))
		}
	}
}

// P5.1: New and Bound.
func TestNew(t *testing.T) {
	for _, n := range bounds {
		check(t, set(t, n), n)
	}
	for _, n := range []int{-1, 4097, -64, math.MinInt, math.MaxInt} {
		if s, e := New(n); s != nil || e != api.ErrArg {
			t.Errorf("New(%d): %v, %d", n, s, e)
		}
	}
}

// P5.1: Add, Drop, Has and Count of each number of a set.
func TestAddAndDrop(t *testing.T) {
	for _, n := range bounds {
		s := set(t, n)
		for i := range n {
			if s.Has(i) || s.Add(i) != api.OK || !s.Has(i) || s.Count() != i+1 {
				t.Fatalf("bound %d: Add(%d): %d", n, i, s.Count())
			}
			if s.Add(i) != api.OK || !s.Has(i) || s.Count() != i+1 {
				t.Fatalf("bound %d: Add(%d) again: %d", n, i, s.Count())
			}
		}
		for i := range n {
			if s.Drop(i) != api.OK || s.Has(i) || s.Count() != n-i-1 {
				t.Fatalf("bound %d: Drop(%d): %d", n, i, s.Count())
			}
			if s.Drop(i) != api.OK || s.Has(i) || s.Count() != n-i-1 {
				t.Fatalf("bound %d: Drop(%d) again: %d", n, i, s.Count())
			}
		}
	}
}

// P5.1: a number that is none of the set's is refused, and nothing has changed.
func TestNoSuchNumber(t *testing.T) {
	for _, n := range bounds {
		s := set(t, n)
		var all []int
		for i := range n {
			s.Add(i)
			all = append(all, i)
		}
		for _, i := range []int{-1, -2, -64, -65, n, n + 1, n + 63, n + 64, 4096, 4097, math.MinInt, math.MaxInt} {
			if e := s.Add(i); e != api.ErrArg {
				t.Errorf("bound %d: Add(%d): %d", n, i, e)
			}
			if e := s.Drop(i); e != api.ErrArg {
				t.Errorf("bound %d: Drop(%d): %d", n, i, e)
			}
			if s.Has(i) {
				t.Errorf("bound %d: Has(%d)", n, i)
			}
		}
		if s.Count() != n || !slices.Equal(s.List(), all) {
			t.Errorf("bound %d: %d, %v", n, s.Count(), s.List())
		}
	}
}

// P5.2: the chapter's example, and Next from everywhere.
func TestNext(t *testing.T) {
	s := set(t, 70, 3, 69)
	check(t, s, 70, 3, 69)
	for _, c := range []struct {
		i, want int
		ok      bool
	}{
		{math.MinInt, 3, true}, {-65, 3, true}, {-1, 3, true}, {0, 3, true}, {2, 3, true}, {3, 3, true},
		{4, 69, true}, {63, 69, true}, {64, 69, true}, {68, 69, true}, {69, 69, true},
		{70, 0, false}, {71, 0, false}, {128, 0, false}, {math.MaxInt, 0, false},
	} {
		if i, ok := s.Next(c.i); i != c.want || ok != c.ok {
			t.Errorf("Next(%d): %d, %v", c.i, i, ok)
		}
	}
	s = set(t, 4096, 0, 63, 64, 4095)
	for _, c := range [][2]int{{0, 0}, {1, 63}, {63, 63}, {64, 64}, {65, 4095}, {4095, 4095}} {
		if i, ok := s.Next(c[0]); i != c[1] || !ok {
			t.Errorf("Next(%d): %d, %v", c[0], i, ok)
		}
	}
	for _, n := range bounds {
		if i, ok := set(t, n).Next(0); i != 0 || ok {
			t.Errorf("an empty set of bound %d: Next(0): %d, %v", n, i, ok)
		}
	}
	if i, ok := set(t, 200, 5).Next(6); i != 0 || ok {
		t.Errorf("behind the last one: %d, %v", i, ok)
	}
}

// P5.2: Or and And, with what they tell of a change; the other set stays.
func TestOrAndAnd(t *testing.T) {
	type join func(s, o *Set) (bool, api.Errno)
	or, and := join((*Set).Or), join((*Set).And)
	for _, c := range []struct {
		join    join
		s, o    []int
		want    []int
		changed bool
	}{
		{or, nil, nil, nil, false},
		{or, []int{1}, nil, []int{1}, false},
		{or, nil, []int{1}, []int{1}, true},
		{or, []int{1, 129}, []int{1, 64}, []int{1, 64, 129}, true},
		{or, []int{1, 64, 129}, []int{1, 129}, []int{1, 64, 129}, false},
		{or, []int{5}, []int{5, 128}, []int{5, 128}, true},
		{or, []int{128}, []int{4, 128}, []int{4, 128}, true},
		{and, nil, nil, nil, false},
		{and, nil, []int{1}, nil, false},
		{and, []int{1}, nil, nil, true},
		{and, []int{1, 129}, []int{1, 64}, []int{1}, true},
		{and, []int{1, 129}, []int{1, 64, 129}, []int{1, 129}, false},
		{and, []int{5, 128}, []int{5}, []int{5}, true},
		{and, []int{5, 128}, []int{128}, []int{128}, true},
	} {
		s, o := set(t, 130, c.s...), set(t, 130, c.o...)
		changed, e := c.join(s, o)
		if changed != c.changed || e != api.OK {
			t.Errorf("%v with %v: %v, %d", c.s, c.o, changed, e)
		}
		check(t, s, 130, c.want...)
		check(t, o, 130, c.o...)
		if changed, e := c.join(s, s); changed || e != api.OK {
			t.Errorf("%v with itself: %v, %d", c.want, changed, e)
		}
		check(t, s, 130, c.want...)
	}
}

// P5.2: sets of unlike bounds are refused, and nothing has changed; of the same bound 0 they are not.
func TestUnlikeBounds(t *testing.T) {
	s := set(t, 70, 3, 69)
	for _, n := range []int{0, 1, 64, 69, 71, 128, 4096} {
		o := set(t, n)
		if n > 0 {
			o.Add(0)
		}
		if changed, e := s.Or(o); changed || e != api.ErrArg {
			t.Errorf("Or with bound %d: %v, %d", n, changed, e)
		}
		if changed, e := s.And(o); changed || e != api.ErrArg {
			t.Errorf("And with bound %d: %v, %d", n, changed, e)
		}
		if s.Same(o) || o.Same(s) {
			t.Errorf("the same as of bound %d", n)
		}
		check(t, s, 70, 3, 69)
	}
	for _, join := range []func(s, o *Set) (bool, api.Errno){(*Set).Or, (*Set).And} {
		if changed, e := join(set(t, 0), set(t, 0)); changed || e != api.OK {
			t.Errorf("of bound 0: %v, %d", changed, e)
		}
	}
}

// P5.2: Same and Copy.
func TestSameAndCopy(t *testing.T) {
	for _, n := range bounds {
		s := set(t, n)
		for i := 0; i < n; i += 3 {
			s.Add(i)
		}
		c := s.Copy()
		if c == nil || c == s || !c.Same(s) || !s.Same(c) || !s.Same(s) || c.Bound() != n || !slices.Equal(c.List(), s.List()) {
			t.Fatalf("bound %d: %v", n, c)
		}
		if n == 0 {
			continue
		}
		before := s.List()
		c.Drop(0)
		if c.Same(s) || s.Same(c) || !slices.Equal(s.List(), before) {
			t.Fatalf("bound %d: the copy is not another one", n)
		}
		s.Drop(0)
		s.Add(n - 1)
		c.Add(n - 1)
		if !c.Same(s) || !s.Same(c) {
			t.Fatalf("bound %d: unlike, though the same was done", n)
		}
	}
	for _, c := range [][2]int{{0, 1}, {1, 2}, {64, 65}, {65, 66}, {69, 70}, {4095, 4096}} {
		if set(t, c[0]).Same(set(t, c[1])) || set(t, c[1]).Same(set(t, c[0])) {
			t.Errorf("empty sets of bounds %v are the same", c)
		}
	}
	if set(t, 69, 3).Same(set(t, 70, 3)) {
		t.Error("sets of unlike bounds with the same numbers are the same")
	}
	if !set(t, 0).Same(set(t, 0)) || !set(t, 130).Same(set(t, 130)) {
		t.Error("empty sets are unlike")
	}
	if set(t, 130, 129).Same(set(t, 130, 128)) || set(t, 130, 1).Same(set(t, 130)) {
		t.Error("unlike sets are the same")
	}
}

// Rule 'Objects': a nil set, and one that no call made. ErrNil stands ahead of ErrArg.
func TestNoSet(t *testing.T) {
	for _, s := range []*Set{nil, {}} {
		for _, i := range []int{0, 1, -1, math.MinInt, math.MaxInt} {
			if s.Add(i) != api.ErrNil || s.Drop(i) != api.ErrNil || s.Has(i) {
				t.Errorf("%v: %d", s, i)
			}
			if n, ok := s.Next(i); n != 0 || ok {
				t.Errorf("%v: Next(%d): %d, %v", s, i, n, ok)
			}
		}
		if s.Count() != 0 || s.Bound() != 0 || s.Copy() != nil || len(s.List()) != 0 {
			t.Errorf("%v answers", s)
		}
		for _, o := range []*Set{nil, {}, s, set(t, 0), set(t, 70, 3)} {
			before := o.List()
			for _, pair := range [][2]*Set{{s, o}, {o, s}} {
				if changed, e := pair[0].Or(pair[1]); changed || e != api.ErrNil {
					t.Errorf("%v Or %v: %v, %d", pair[0], pair[1], changed, e)
				}
				if changed, e := pair[0].And(pair[1]); changed || e != api.ErrNil {
					t.Errorf("%v And %v: %v, %d", pair[0], pair[1], changed, e)
				}
				if pair[0].Same(pair[1]) {
					t.Errorf("%v is the same as %v", pair[0], pair[1])
				}
			}
			if !slices.Equal(o.List(), before) {
				t.Errorf("%v has changed", o)
			}
		}
		if s.Add(0) != api.ErrNil {
			t.Errorf("%v became a set", s)
		}
	}
}

// some is a set, with the numbers that are in it.
func some(t *testing.T, r *rand.Rand, n int) (*Set, []int) {
	s := set(t, n)
	var l []int
	often := 1 + r.Intn(9)
	for i := range n {
		if r.Intn(often) == 0 {
			s.Add(i)
			l = append(l, i)
		}
	}
	return s, l
}

// P5.3: neither Or nor And hangs on the order, and done twice they change nothing.
func TestOrderPlaysNoPart(t *testing.T) {
	r := rand.New(rand.NewSource(53))
	for range 2000 {
		n := bounds[r.Intn(len(bounds)-2)]
		a, la := some(t, r, n)
		b, lb := some(t, r, n)
		c, lc := some(t, r, n)
		for _, join := range []func(s, o *Set) (bool, api.Errno){(*Set).Or, (*Set).And} {
			one, other := a.Copy(), c.Copy()
			join(one, b)
			join(one, c)
			join(other, b)
			join(other, a)
			if !one.Same(other) || !slices.Equal(one.List(), other.List()) {
				t.Fatalf("%v, %v, %v: %v and %v", la, lb, lc, one.List(), other.List())
			}
			for _, again := range []*Set{b, c} {
				if changed, e := join(one, again); changed || e != api.OK || !one.Same(other) {
					t.Fatalf("%v, %v, %v: done twice: %v, %d", la, lb, lc, changed, e)
				}
			}
		}
		if !slices.Equal(a.List(), la) || !slices.Equal(b.List(), lb) || !slices.Equal(c.List(), lc) {
			t.Fatalf("%v, %v, %v: changed", la, lb, lc)
		}
	}
}

// P5.4: List is what Next tells, one by one.
func TestListIsNext(t *testing.T) {
	r := rand.New(rand.NewSource(54))
	for range 2000 {
		n := bounds[r.Intn(len(bounds))]
		s, want := some(t, r, n)
		var told []int
		for i, ok := s.Next(math.MinInt); ok; i, ok = s.Next(i + 1) {
			told = append(told, i)
		}
		if !slices.Equal(told, want) || !slices.Equal(s.List(), want) || s.Count() != len(want) {
			t.Fatalf("bound %d: %v: Next %v, List %v, Count %d", n, want, told, s.List(), s.Count())
		}
		from := r.Intn(n + 2)
		at, _ := slices.BinarySearch(want, from)
		next, ok := s.Next(from)
		if ok != (at < len(want)) || ok && next != want[at] || !ok && next != 0 {
			t.Fatalf("bound %d: %v: Next(%d): %d, %v", n, want, from, next, ok)
		}
	}
}

// All of P5.1 and P5.2, held against a plain list of bools.
func TestManyCalls(t *testing.T) {
	r := rand.New(rand.NewSource(51))
	for range 300 {
		n := bounds[r.Intn(len(bounds)-2)]
		s, in := set(t, n), make([]bool, n)
		for range 60 {
			i := r.Intn(n+4) - 2
			want := api.OK
			if i < 0 || i >= n {
				want = api.ErrArg
			}
			add := r.Intn(3) > 0
			e := api.OK
			if add {
				e = s.Add(i)
			} else {
				e = s.Drop(i)
			}
			if e != want {
				t.Fatalf("bound %d: %d: %d", n, i, e)
			}
			if e == api.OK {
				in[i] = add
			}
		}
		var l []int
		for i, is := range in {
			if is {
				l = append(l, i)
			}
		}
		check(t, s, n, l...)
	}
}

// Rule 'Memory': no set shares a word with another one, nor a list with a set or another list.
func TestMemory(t *testing.T) {
	s, o := set(t, 130, 1, 2), set(t, 130, 2, 64)
	c := s.Copy()
	l, m := s.List(), s.List()
	l[0] = 99
	_ = append(l, 98)
	_ = append(m, 97)
	check(t, s, 130, 1, 2)
	if !slices.Equal(m, []int{1, 2}) {
		t.Fatal("two lists share memory")
	}
	s.Or(o)
	o.Add(129)
	o.Drop(2)
	check(t, s, 130, 1, 2, 64)
	check(t, c, 130, 1, 2)
	s.And(o)
	o.Drop(64)
	check(t, s, 130, 64)
	if !slices.Equal(m, []int{1, 2}) {
		t.Fatal("a list hangs on its set")
	}
}
