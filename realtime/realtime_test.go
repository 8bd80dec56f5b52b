package realtime

import (
	"math"
	"math/rand"
	"reflect"
	"slices"
	"testing"

	"assayer/api"
)

func at(from, to int) api.Txn { return api.Txn{State: api.TxOk, From: from, To: to} }

func in(state, from, to int) api.Txn { return api.Txn{State: state, From: from, To: to} }

// P13.1: Before, at its edges.
func TestBefore(t *testing.T) {
	for name, c := range map[string]struct {
		a, b api.Txn
		want bool
	}{
		"ended ahead":                {at(0, 1), at(2, 3), true},
		"turned round":               {at(2, 3), at(0, 1), false},
		"at one place":               {at(0, 2), at(2, 3), false},
		"one place ahead":            {at(0, 1), at(2, 2), true},
		"at the same time":           {at(0, 2), at(1, 3), false},
		"one inside the other":       {at(0, 9), at(3, 4), false},
		"no end":                     {at(0, -1), at(5, 6), false},
		"an end below that":          {at(0, math.MinInt), at(5, 6), false},
		"the first place":            {at(-4, 0), at(1, 2), true},
		"the second has no end":      {at(0, 1), at(2, -1), true},
		"the first one's From":       {at(9, 1), at(2, 3), true},
		"the second one's To":        {at(0, 1), at(2, 0), true},
		"greatest numbers":           {at(math.MinInt, math.MaxInt-1), at(math.MaxInt, math.MinInt), true},
		"greatest numbers, alike":    {at(0, math.MaxInt), at(math.MaxInt, math.MaxInt), false},
		"a beginning below 0":        {at(0, 0), at(-1, 3), false},
		"the first one failed":       {in(api.TxFail, 0, 1), at(2, 3), false},
		"the first one unknown":      {in(api.TxInfo, 0, 1), at(2, 3), false},
		"the second one failed":      {at(0, 1), in(api.TxFail, 2, 3), false},
		"the second one unknown":     {at(0, 1), in(api.TxInfo, 2, 3), false},
		"a state that is none":       {in(0, 0, 1), at(2, 3), false},
		"another one":                {at(0, 1), in(4, 2, 3), false},
		"none below":                 {in(-1, 0, 1), in(math.MinInt, 2, 3), false},
		"whatever they do":           {api.Txn{Proc: 7, State: api.TxOk, To: 1, Ops: []api.Op{{Kind: 99}}}, api.Txn{Proc: -7, State: api.TxOk, From: 2, To: 3}, true},
		"of one process, just so":    {api.Txn{Proc: 1, State: api.TxOk, To: 3}, api.Txn{Proc: 1, State: api.TxOk, From: 3, To: 4}, false},
		"nothing at all":             {api.Txn{}, api.Txn{}, false},
		"itself, made by hand":       {at(5, 1), at(5, 1), true},
		"itself, as it ends at once": {at(5, 5), at(5, 5), false},
	} {
		if Before(c.a, c.b) != c.want {
			t.Errorf("%s: %v", name, !c.want)
		}
	}
}

// P13.1, P13.2: pairs of some lists.
func TestPairs(t *testing.T) {
	for name, c := range map[string]struct {
		l            []api.Txn
		full, sparse [][2]int
	}{
		"nothing":           {nil, nil, nil},
		"an empty list":     {[]api.Txn{}, nil, nil},
		"one":               {[]api.Txn{at(0, 1)}, nil, nil},
		"the example":       {[]api.Txn{at(0, 1), at(2, 3), at(4, 5)}, [][2]int{{0, 1}, {0, 2}, {1, 2}}, [][2]int{{0, 1}, {1, 2}}},
		"turned round":      {[]api.Txn{at(4, 5), at(2, 3), at(0, 1)}, [][2]int{{1, 0}, {2, 0}, {2, 1}}, [][2]int{{1, 0}, {2, 1}}},
		"at the same time":  {[]api.Txn{at(0, 3), at(1, 2)}, nil, nil},
		"two and two":       {[]api.Txn{at(0, 2), at(1, 3), at(4, 6), at(5, 7)}, [][2]int{{0, 2}, {0, 3}, {1, 2}, {1, 3}}, [][2]int{{0, 2}, {0, 3}, {1, 2}, {1, 3}}},
		"a long one beside": {[]api.Txn{at(0, 1), at(2, 9), at(3, 4), at(5, 6), at(10, 11)}, [][2]int{{0, 1}, {0, 2}, {0, 3}, {0, 4}, {1, 4}, {2, 3}, {2, 4}, {3, 4}}, [][2]int{{0, 1}, {0, 2}, {1, 4}, {2, 3}, {3, 4}}},
		"by numbers, not by beginnings": {[]api.Txn{at(0, 1), at(6, 9), at(5, 9), at(7, 9), at(5, 8)},
			[][2]int{{0, 1}, {0, 2}, {0, 3}, {0, 4}}, [][2]int{{0, 1}, {0, 2}, {0, 3}, {0, 4}}},
		"between, but it failed":     {[]api.Txn{at(0, 1), in(api.TxFail, 2, 3), at(4, 5)}, [][2]int{{0, 2}}, [][2]int{{0, 2}}},
		"between, but unknown":       {[]api.Txn{at(0, 1), in(api.TxInfo, 2, 3), at(4, 5)}, [][2]int{{0, 2}}, [][2]int{{0, 2}}},
		"between, but no state":      {[]api.Txn{at(0, 1), in(9, 2, 3), at(4, 5)}, [][2]int{{0, 2}}, [][2]int{{0, 2}}},
		"between, but without end":   {[]api.Txn{at(0, 1), at(2, -1), at(4, 5)}, [][2]int{{0, 1}, {0, 2}}, [][2]int{{0, 1}, {0, 2}}},
		"between, up to a beginning": {[]api.Txn{at(0, 1), at(2, 4), at(4, 5), at(5, 6)}, [][2]int{{0, 1}, {0, 2}, {0, 3}, {1, 3}}, [][2]int{{0, 1}, {0, 2}, {1, 3}}},
		"two that are alike":         {[]api.Txn{at(0, 1), at(0, 1), at(2, 3), at(2, 3)}, [][2]int{{0, 2}, {0, 3}, {1, 2}, {1, 3}}, [][2]int{{0, 2}, {0, 3}, {1, 2}, {1, 3}}},
		"without any end":            {[]api.Txn{at(0, -1), at(1, -1)}, nil, nil},
		"turned by hand":             {[]api.Txn{at(5, 1)}, [][2]int{{0, 0}}, nil},
		"beside one turned by hand":  {[]api.Txn{at(0, 1), at(5, 3), at(8, 9)}, [][2]int{{0, 1}, {0, 2}, {1, 1}, {1, 2}}, nil},
		"greatest numbers":           {[]api.Txn{at(math.MaxInt, math.MaxInt), at(math.MinInt, 0), at(1, math.MaxInt-1)}, [][2]int{{1, 0}, {1, 2}, {2, 0}}, [][2]int{{1, 2}, {2, 0}}},
	} {
		if p := Full(c.l); !slices.Equal(p, c.full) {
			t.Errorf("%s: full %v", name, p)
		}
		if p := Sparse(c.l); !slices.Equal(p, c.sparse) {
			t.Errorf("%s: sparse %v", name, p)
		}
	}
}

// word is the chapter, word by word.
func word(l []api.Txn) (full, sparse [][2]int) {
	before := func(a, b api.Txn) bool {
		return a.State == api.TxOk && b.State == api.TxOk && a.To >= 0 && a.To < b.From
	}
	for i := range l {
		for k := range l {
			if before(l[i], l[k]) {
				full = append(full, [2]int{i, k})
			}
		}
	}
	for _, p := range full {
		if !slices.ContainsFunc(l, func(j api.Txn) bool { return before(l[p[0]], j) && before(j, l[p[1]]) }) {
			sparse = append(sparse, p)
		}
	}
	return full, sparse
}

// made is transactions at random; calm ones end no earlier than they begin.
func made(r *rand.Rand, calm bool) []api.Txn {
	l := make([]api.Txn, r.Intn(9))
	wide, long := 1+r.Intn(20), 1+r.Intn(6)
	for n := range l {
		from := r.Intn(wide) - 1
		l[n] = api.Txn{Proc: r.Intn(3), State: api.TxOk, From: from, To: from + r.Intn(long)}
		if r.Intn(8) == 0 {
			l[n].State = r.Intn(6) - 1
		}
		if !calm && r.Intn(4) == 0 {
			l[n].To = r.Intn(wide) - 2
		}
	}
	return l
}

// P13.1, P13.2: against the chapter's words, whatever the transactions.
func TestAtRandom(t *testing.T) {
	r := rand.New(rand.NewSource(13))
	left, out := 0, 0
	for n := range 60000 {
		l := made(r, n%2 == 0)
		full, sparse := word(l)
		if p := Full(l); !slices.Equal(p, full) {
			t.Fatalf("%v: full %v, not %v", l, p, full)
		}
		if p := Sparse(l); !slices.Equal(p, sparse) {
			t.Fatalf("%v: sparse %v, not %v", l, p, sparse)
		}
		left, out = left+len(sparse), out+len(full)-len(sparse)
	}
	if left < 10000 || out < 10000 {
		t.Fatal("too much alike", left, out)
	}
}

// reach is what is reached by pairs, by one or more.
func reach(n int, pairs [][2]int) []bool {
	m := make([]bool, n*n)
	for _, p := range pairs {
		m[p[0]*n+p[1]] = true
	}
	for j := range n {
		for i := range n {
			for k := range n {
				m[i*n+k] = m[i*n+k] || m[i*n+j] && m[j*n+k]
			}
		}
	}
	return m
}

// P13.3
func TestSparseReaches(t *testing.T) {
	r := rand.New(rand.NewSource(133))
	for range 20000 {
		l := made(r, true)
		if !slices.Equal(reach(len(l), Sparse(l)), reach(len(l), Full(l))) {
			t.Fatal(l, Sparse(l), Full(l))
		}
	}
}

// P13.4
func TestBeforeGoesOn(t *testing.T) {
	r := rand.New(rand.NewSource(134))
	on := 0
	for range 10000 {
		l := made(r, true)
		for _, a := range l {
			if Before(a, a) {
				t.Fatal(a)
			}
			for _, b := range l {
				for _, c := range l {
					if !Before(a, b) || !Before(b, c) {
						continue
					}
					on++
					if !Before(a, c) {
						t.Fatal(a, b, c)
					}
				}
			}
		}
	}
	if on < 10000 {
		t.Fatal("too few", on)
	}
}

// Memory: what is handed in is as it was, the room behind it, too; answers are new.
func TestMemory(t *testing.T) {
	room := func() []api.Txn {
		return []api.Txn{at(4, 5), at(0, 1), in(api.TxInfo, 9, 9), at(2, 3), at(6, 7), at(20, 21)}
	}
	whole := room()
	l := whole[:4]
	for _, f := range []func([]api.Txn) [][2]int{Full, Sparse} {
		p := f(l)
		was := slices.Clone(p)
		again := f(l)
		for i := range again[:cap(again)] {
			again[:cap(again)][i] = [2]int{-5, -5}
		}
		if len(was) == 0 || !slices.Equal(p, was) || !slices.Equal(f(l), was) {
			t.Fatal(p, f(l))
		}
		if !reflect.DeepEqual(whole, room()) {
			t.Fatal("what was handed in is changed", whole)
		}
	}
}

// Ends: lists that are long, of which few pairs are told, are done at once.
func TestLong(t *testing.T) {
	const many = 200000
	chain, crowd := make([]api.Txn, many), make([]api.Txn, many)
	for n := range chain {
		chain[n] = at(2*n, 2*n+1)
		crowd[n] = at(n, many+n)
	}
	p := Sparse(chain)
	if len(p) != many-1 {
		t.Fatal(len(p))
	}
	for n := range p {
		if p[n] != [2]int{n, n + 1} {
			t.Fatal(n, p[n])
		}
	}
	if len(Full(crowd)) != 0 || len(Sparse(crowd)) != 0 {
		t.Fatal(len(Full(crowd)), len(Sparse(crowd)))
	}
}
