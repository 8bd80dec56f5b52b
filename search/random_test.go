package search

import (
	"math/rand"
	"slices"
	"testing"

	"assayer/api"
	"assayer/model"
)

// shows is what the chapter says of an order, word by word.
func shows(l []api.Txn, order []int) bool {
	stands := map[int]int{}
	for at, n := range order {
		if n < 0 || n >= len(l) || l[n].State != api.TxOk && l[n].State != api.TxInfo {
			return false
		}
		if _, twice := stands[n]; twice {
			return false
		}
		stands[n] = at
	}
	for a, x := range l {
		at, there := stands[a]
		if x.State == api.TxOk && !there {
			return false
		}
		for b, y := range l {
			behind, both := stands[b]
			if a != b && there && both && x.State == api.TxOk && x.To >= 0 && x.To < y.From && at > behind {
				return false
			}
		}
	}
	return model.Replay(l, order)
}

// plain goes through all orders that replay, without leaving any out: the first one that shows it, and how many steps that took.
func plain(l []api.Txn, order []int, steps *int) []int {
	if shows(l, order) {
		return append([]int{}, order...)
	}
	for n, x := range l {
		if slices.Contains(order, n) || x.State != api.TxOk && x.State != api.TxInfo {
			continue
		}
		*steps++
		next := append(slices.Clone(order), n)
		if !model.Replay(l, next) {
			continue
		}
		if found := plain(l, next, steps); found != nil {
			return found
		}
	}
	return nil
}

// someOp is an operation at random, whose reads are of what there is; kinds are those of 9 that there are.
func someOp(r *rand.Rand, s *model.State, value *int, kinds []int) api.Op {
	list, reg := []string{"x", "y"}[r.Intn(2)], []string{"x", "q"}[r.Intn(2)]
	*value++
	v := *value
	if r.Intn(3) == 0 {
		v = r.Intn(3)
	}
	switch kinds[r.Intn(len(kinds))] {
	case 0, 1:
		return app(list, v)
	case 2, 3:
		return set(reg, r.Intn(3))
	case 4, 5:
		return saw(list, s.List(list)...)
	case 6, 7:
		now, has := s.Value(reg)
		return api.Op{Kind: api.OpGet, Key: reg, Value: now, Has: true, Nil: !has}
	}
	return api.Op{Kind: r.Intn(6), Key: list, Value: v, List: []int{v}}
}

// spoil makes one operation other than it was.
func spoil(r *rand.Rand, l []api.Op) {
	if len(l) == 0 {
		return
	}
	o := &l[r.Intn(len(l))]
	switch o.Kind {
	case api.OpGet:
		o.Value, o.Nil = r.Intn(3), r.Intn(3) == 0
	case api.OpRead:
		o.List = append([]int{}, o.List[:r.Intn(len(o.List)+1)]...)
		if r.Intn(3) == 0 {
			o.List = append(o.List, r.Intn(9))
		}
	default:
		o.Value = r.Intn(9)
	}
}

// history is transactions at random, most of them done one behind the other, and each within its time; then some are spoilt, and their numbers are shuffled.
func history(r *rand.Rand, many int) []api.Txn {
	s, value, wide, wrong := model.New(), 2, 1+r.Intn(3*many+1), 1+r.Intn(2*many+1)
	kinds := [][]int{{0, 1, 2, 3, 4, 5, 6, 7, 8}, {0, 4}, {2, 6}, {0, 2, 4, 6}}[r.Intn(4)]
	l := make([]api.Txn, many)
	for n := range l {
		x := &l[n]
		*x = api.Txn{State: api.TxOk, From: 2*n - r.Intn(wide), To: 2*n + r.Intn(wide)}
		now := s.Copy()
		for range r.Intn(5) {
			o := someOp(r, now, &value, kinds)
			now.Apply([]api.Op{o}, true)
			x.Ops = append(x.Ops, o)
		}
		switch r.Intn(8) {
		case 0:
			x.State = r.Intn(6) - 1
		case 1, 2:
			x.State = api.TxInfo
		}
		if x.State == api.TxOk || r.Intn(2) == 0 {
			s = now
		}
		if r.Intn(6) == 0 {
			x.To = -1 - r.Intn(2)
		}
		if r.Intn(25) == 0 {
			x.From, x.To = r.Intn(2*many), r.Intn(2*many)
		}
		if r.Intn(wrong) == 0 {
			spoil(r, x.Ops)
		}
	}
	r.Shuffle(many, func(i, k int) { l[i], l[k] = l[k], l[i] })
	return l
}

// P17.1: any orders of any transactions.
func TestRightAtRandom(t *testing.T) {
	r := rand.New(rand.NewSource(171))
	seen := [2]int{}
	for range 40000 {
		l := history(r, r.Intn(5))
		order := r.Perm(len(l))[:r.Intn(len(l)+1)]
		if steps := 0; r.Intn(2) == 0 {
			order = plain(l, nil, &steps)
		}
		if len(order) > 0 && r.Intn(6) == 0 {
			order[r.Intn(len(order))] = r.Intn(len(l)+2) - 1
		}
		want := shows(l, order)
		if Right(l, order) != want {
			t.Fatal(l, order, want)
		}
		if want {
			seen[1]++
		} else {
			seen[0]++
		}
	}
	if min(seen[0], seen[1]) < 5000 {
		t.Fatal("too much alike", seen)
	}
}

// checkAnswer holds an answer against that of the plain search; how many steps it took.
func checkAnswer(t *testing.T, l []api.Txn, steps int) (int, int) {
	t.Helper()
	most := 0
	first := plain(l, nil, &most)
	a, o, n := Search(l, steps)
	switch {
	case n > most || n < len(o) || n > steps:
		t.Fatal("steps", l, a, o, n, most)
	case first != nil && (a != api.AnswerYes || !shows(l, o) || !Right(l, o)):
		t.Fatal("not yes", l, a, o, n, first)
	case first == nil && (a != api.AnswerNo || len(o) != 0):
		t.Fatal("not no", l, a, o, n)
	}
	return a, n
}

// P17.2, P17.3: of at most five transactions each answer is found in 2000 steps, in no more than the plain search takes.
func TestSearchAtRandom(t *testing.T) {
	r := rand.New(rand.NewSource(172))
	seen := [4]int{}
	for range 20000 {
		a, _ := checkAnswer(t, history(r, r.Intn(6)), 2000)
		seen[a]++
	}
	if min(seen[api.AnswerYes], seen[api.AnswerNo]) < 2000 {
		t.Fatal("too much alike", seen)
	}
}

// P17.2: of some more.
func TestSearchOfMore(t *testing.T) {
	r := rand.New(rand.NewSource(173))
	seen, most := [4]int{}, 0
	for range 3000 {
		a, n := checkAnswer(t, history(r, 6+r.Intn(2)), api.MaxSteps)
		seen[a]++
		most = max(most, n)
	}
	if min(seen[api.AnswerYes], seen[api.AnswerNo]) < 100 || most < 25 {
		t.Fatal("too much alike", seen, most)
	}
}

// P17.2, P17.4: with fewer steps than are needed the answer is unknown, and all were taken; with just as many, or more, it stays as it is.
func TestFewerSteps(t *testing.T) {
	r := rand.New(rand.NewSource(174))
	for range 3000 {
		l := history(r, r.Intn(6))
		a, o, n := Search(l, 2000)
		for steps := range n {
			if b, p, m := Search(l, steps); b != api.AnswerUnknown || len(p) != 0 || m != steps {
				t.Fatal(l, steps, b, p, m)
			}
		}
		for _, steps := range []int{n, n + 1, n + 2, 2 * n, api.MaxSteps, 1 << 40} {
			if b, p, m := Search(l, steps); b != a || !slices.Equal(p, o) || m != n {
				t.Fatal(l, steps, b, p, m)
			}
		}
	}
}

// P17.2: a history that was made one transaction at a time is told as such, however long it is, and the order shows it.
func TestMadeInOrder(t *testing.T) {
	r := rand.New(rand.NewSource(175))
	for range 100 {
		s, value := model.New(), 2
		l := make([]api.Txn, 50+r.Intn(100))
		for n := range l {
			l[n] = at(3*n-r.Intn(6), 3*n+r.Intn(6))
			for range 1 + r.Intn(3) {
				value++
				o := app([]string{"x", "y", "z"}[r.Intn(3)], value)
				if r.Intn(3) == 0 {
					o = saw(o.Key, s.List(o.Key)...)
				}
				s.Apply([]api.Op{o}, true)
				l[n].Ops = append(l[n].Ops, o)
			}
			if r.Intn(6) == 0 {
				l[n].State = api.TxInfo
			}
		}
		r.Shuffle(len(l), func(i, k int) { l[i], l[k] = l[k], l[i] })
		if a, o, n := Search(l, api.MaxSteps); a != api.AnswerYes || !shows(l, o) {
			t.Fatal(l, a, o, n)
		}
	}
}
