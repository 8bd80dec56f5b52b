package model

import (
	"maps"
	"math"
	"math/rand"
	"reflect"
	"slices"
	"strconv"
	"strings"
	"testing"

	"assayer/api"
)

func app(key string, value int) api.Op { return api.Op{Kind: api.OpAppend, Key: key, Value: value} }
func put(key string, value int) api.Op { return api.Op{Kind: api.OpWrite, Key: key, Value: value} }
func saw(key string, l ...int) api.Op {
	return api.Op{Kind: api.OpRead, Key: key, List: l, Has: true}
}
func got(key string, value int) api.Op {
	return api.Op{Kind: api.OpGet, Key: key, Value: value, Has: true}
}
func none(key string) api.Op { return api.Op{Kind: api.OpGet, Key: key, Has: true, Nil: true} }

// after is an empty state behind some operations, which must apply.
func after(t *testing.T, l ...api.Op) *State {
	t.Helper()
	s := New()
	if !s.Apply(l, false) {
		t.Fatal(l)
	}
	return s
}

// P16.1: what each operation does, and must read.
func TestApply(t *testing.T) {
	for name, c := range map[string]struct {
		l    []api.Op
		want bool
	}{
		"nothing":                        {nil, true},
		"an empty list of operations":    {[]api.Op{}, true},
		"the chapter's example":          {[]api.Op{app("x", 1), saw("x", 1), none("x")}, true},
		"an empty list":                  {[]api.Op{saw("x")}, true},
		"nothing that was appended":      {[]api.Op{saw("x", 1)}, false},
		"an append that is not read":     {[]api.Op{app("x", 1), saw("x")}, false},
		"an append of another value":     {[]api.Op{app("x", 1), saw("x", 2)}, false},
		"in order":                       {[]api.Op{app("x", 3), app("x", 1), app("x", 2), saw("x", 3, 1, 2)}, true},
		"in another order":               {[]api.Op{app("x", 1), app("x", 2), saw("x", 2, 1)}, false},
		"a beginning":                    {[]api.Op{app("x", 1), app("x", 2), saw("x", 1)}, false},
		"an end":                         {[]api.Op{app("x", 1), app("x", 2), saw("x", 2)}, false},
		"one too many":                   {[]api.Op{app("x", 1), saw("x", 1, 1)}, false},
		"a value twice":                  {[]api.Op{app("x", 1), app("x", 1), saw("x", 1, 1)}, true},
		"read ahead of it":               {[]api.Op{saw("x"), app("x", 1)}, true},
		"read ahead of it, wrong":        {[]api.Op{saw("x", 1), app("x", 1)}, false},
		"a register without a value":     {[]api.Op{none("p")}, true},
		"nothing that was written":       {[]api.Op{got("p", 0)}, false},
		"a write":                        {[]api.Op{put("p", 1), got("p", 1)}, true},
		"a write of another value":       {[]api.Op{put("p", 1), got("p", 2)}, false},
		"a write that is not read":       {[]api.Op{put("p", 0), none("p")}, false},
		"the last write":                 {[]api.Op{put("p", 1), put("p", 0), got("p", 0)}, true},
		"the first write":                {[]api.Op{put("p", 1), put("p", 0), got("p", 1)}, false},
		"got ahead of it":                {[]api.Op{none("p"), put("p", 1), got("p", 1), got("p", 1)}, true},
		"keys are their own":             {[]api.Op{app("x", 1), put("p", 2), saw("y"), none("q"), saw("x", 1), got("p", 2)}, true},
		"another list's":                 {[]api.Op{app("x", 1), saw("y", 1)}, false},
		"another register's":             {[]api.Op{put("p", 1), got("q", 1)}, false},
		"a list and a register, one key": {[]api.Op{put("x", 1), app("x", 2), saw("x", 2), got("x", 1)}, true},
		"a register is no list":          {[]api.Op{put("x", 1), saw("x", 1)}, false},
		"a list is no register":          {[]api.Op{app("x", 1), got("x", 1)}, false},
		"a read that tells nothing":      {[]api.Op{app("x", 1), {Kind: api.OpRead, Key: "x"}, {Kind: api.OpRead, Key: "x", List: []int{7}}}, true},
		"a get that tells nothing":       {[]api.Op{put("x", 1), {Kind: api.OpGet, Key: "x"}, {Kind: api.OpGet, Key: "x", Nil: true}, {Kind: api.OpGet, Key: "x", Value: 7}}, true},
		"nil, whatever else":             {[]api.Op{{Kind: api.OpGet, Key: "x", Has: true, Nil: true, Value: 7, List: []int{7}}}, true},
		"a read, whatever else":          {[]api.Op{app("x", 1), {Kind: api.OpRead, Key: "x", Has: true, Nil: true, Value: 7, List: []int{1}}}, true},
		"a read, whatever else, wrong":   {[]api.Op{app("x", 1), {Kind: api.OpRead, Key: "x", Has: true, Nil: true, Value: 1}}, false},
		"writes, whatever else":          {[]api.Op{{Kind: api.OpAppend, Key: "x", Value: 1, Has: true, Nil: true, List: []int{7}}, {Kind: api.OpWrite, Key: "x", Value: 2, Has: true, Nil: true}, saw("x", 1), got("x", 2)}, true},
		"kinds that are none":            {[]api.Op{{Kind: 0, Key: "x", Value: 1, Has: true}, {Kind: 5, Key: "x", Value: 1, Has: true, List: []int{1}}, {Kind: -1, Key: "x", Value: 1}, {Kind: math.MaxInt, Key: "x", Has: true}, saw("x"), none("x")}, true},
		"strange keys and values":        {[]api.Op{app("", math.MinInt), put("\xff\n", math.MaxInt), saw("", math.MinInt), got("\xff\n", math.MaxInt)}, true},
	} {
		if ok := New().Apply(c.l, false); ok != c.want {
			t.Errorf("%s: %v", name, ok)
		}
		if !New().Apply(c.l, true) {
			t.Errorf("%s: not blind", name)
		}
	}
}

// P16.1: blind, what is written is written all the same.
func TestBlind(t *testing.T) {
	s := after(t, app("x", 1))
	if !s.Apply([]api.Op{saw("x"), app("x", 2), got("p", 3), put("p", 4), none("p")}, true) {
		t.Fatal("not applied")
	}
	if !slices.Equal(s.List("x"), []int{1, 2}) || !s.Apply([]api.Op{saw("x", 1, 2), got("p", 4)}, false) {
		t.Fatal(s.Text())
	}
}

// P16.1: where one operation does not read what there is, none of them was done, wherever it stands.
func TestAsItWas(t *testing.T) {
	l := []api.Op{app("x", 2), put("p", 2), app("y", 1), put("q", 1), app("x", 3), put("p", 3), put("q", 2), app("y", 2)}
	begin := []api.Op{app("x", 1), put("p", 1), app("z", 5)}
	for _, wrong := range []api.Op{saw("x", 9), saw("y", 9), got("p", 9), none("p"), got("q", 9), saw("z")} {
		for at := range len(l) + 1 {
			s := after(t, begin...)
			if s.Apply(slices.Insert(slices.Clone(l), at, wrong), false) {
				t.Fatal(wrong, at)
			}
			if s.Text() != after(t, begin...).Text() {
				t.Fatal(wrong, at, s.Text())
			}
			if !s.Apply([]api.Op{saw("x", 1), got("p", 1), saw("y"), none("q"), saw("z", 5)}, false) {
				t.Fatal(wrong, at, s.Text())
			}
			if !s.Apply(l, false) || s.Text() != after(t, append(slices.Clone(begin), l...)...).Text() {
				t.Fatal(wrong, at, s.Text())
			}
		}
	}
	s := New()
	if s.Apply([]api.Op{app("x", 1), put("x", 1), saw("x")}, false) || s.Text() != New().Text() {
		t.Fatal(s.Text())
	}
}

// P16.2
func TestListAndValue(t *testing.T) {
	s := New()
	if v, ok := s.Value("x"); len(s.List("x")) != 0 || v != 0 || ok {
		t.Fatal(s.List("x"), v, ok)
	}
	s = after(t, app("x", 1), app("x", 2), put("x", 0), app("", 3), put("p", -5))
	for key, want := range map[string][]int{"x": {1, 2}, "": {3}, "p": nil, "q": nil, "x ": nil} {
		if !slices.Equal(s.List(key), want) {
			t.Error(key, s.List(key))
		}
	}
	for key, want := range map[string]register{"x": {0, true}, "p": {-5, true}, "": {}, "q": {}} {
		if v, ok := s.Value(key); v != want.value || ok != want.has {
			t.Error(key, v, ok)
		}
	}
}

// P16.2: a copy has the same, and from then on neither knows of the other.
func TestCopy(t *testing.T) {
	s := after(t, app("x", 1), app("x", 2), app("x", 3), put("p", 1))
	c := s.Copy()
	if c == s || c.Text() != s.Text() || !slices.Equal(c.List("x"), []int{1, 2, 3}) {
		t.Fatal(c.Text())
	}
	if !c.Apply([]api.Op{app("x", 4), app("y", 1), put("p", 2), put("q", 1)}, false) {
		t.Fatal("the copy")
	}
	if !s.Apply([]api.Op{saw("x", 1, 2, 3), saw("y"), got("p", 1), none("q"), app("x", 5), put("p", 3)}, false) {
		t.Fatal(s.Text())
	}
	if !c.Apply([]api.Op{saw("x", 1, 2, 3, 4), saw("y", 1), got("p", 2), got("q", 1)}, false) {
		t.Fatal(c.Text())
	}
	if e := New().Copy(); e == nil || e.Text() != New().Text() || !e.Apply([]api.Op{app("x", 1)}, false) {
		t.Fatal("the copy of an empty one")
	}
}

// P16.3: states that differ, of which keys or values look like one another.
func TestTextDiffers(t *testing.T) {
	states := []*State{
		New(), after(t, app("x", 1)), after(t, app("y", 1)), after(t, put("x", 1)), after(t, put("y", 1)),
		after(t, app("x", 1), put("x", 1)), after(t, app("x", 2)), after(t, app("x", -1)), after(t, put("x", 0)),
		after(t, app("x", 1), app("x", 2)), after(t, app("x", 2), app("x", 1)), after(t, app("x", 12)), after(t, app("x", 1), app("x", 1)),
		after(t, app("x 1", 2)), after(t, app("x1", 2)), after(t, app("x", 1), app("y", 2)), after(t, app("x", 2), app("y", 1)),
		after(t, app("x", 1), put("y", 2)), after(t, put("x", 1), app("y", 2)), after(t, put("x", 1), put("y", 2)),
		after(t, app("", 1)), after(t, put("", 1)), after(t, app(" ", 1)), after(t, app("\n", 1)), after(t, app("\x00", 1)), after(t, app("\xff", 1)), after(t, app("\xfe", 1)),
		after(t, app("x 1\nlist 1 y", 2)), after(t, app("x 1\nregister 1 y", 2)), after(t, app("x", 1), app("y", 2), app("z", 3)),
		after(t, app("x", 1), app("y 2\nlist 1 z", 3)), after(t, app("1 x", 1)), after(t, app("11", 1)), after(t, app("1", 11)), after(t, app("1", 1), app("1", 1)),
		after(t, put("p", math.MaxInt)), after(t, put("p", math.MinInt)), after(t, put("p", 1<<32)), after(t, put("p", 0)),
		after(t, app("\"x\"", 1)), after(t, app("x\\", 1)), after(t, app("X", 1)), after(t, app("�", 1)),
	}
	seen := map[string]int{}
	for i, s := range states {
		if k, old := seen[s.Text()]; old {
			t.Errorf("%d and %d: %q", k, i, s.Text())
		}
		seen[s.Text()] = i
	}
}

// P16.3: the same lists and registers, however they came to be.
func TestTextIsAlike(t *testing.T) {
	one := after(t, app("a", 1), app("b", 2), app("a", 3), put("c", 4), put("d", 5), app("e", 6), app("f", 7))
	other := after(t, put("d", 9), app("f", 7), app("e", 6), put("d", 5), app("b", 2), put("c", 4), app("a", 1), saw("b", 2), app("a", 3), saw("z"), none("z"))
	for range 50 {
		if one.Text() != other.Text() || one.Copy().Text() != one.Text() {
			t.Fatal(one.Text(), other.Text())
		}
	}
	if other.Apply([]api.Op{app("z", 1), put("z", 1), app("a", 9), none("z")}, false) || one.Text() != other.Text() {
		t.Fatal(other.Text())
	}
}

// P16.4
func TestReplay(t *testing.T) {
	ok := func(l ...api.Op) api.Txn { return api.Txn{State: api.TxOk, Ops: l} }
	info := func(l ...api.Op) api.Txn { return api.Txn{State: api.TxInfo, From: 9, To: -1, Ops: l} }
	l := []api.Txn{
		ok(app("x", 1)),
		ok(saw("x", 1), none("p")),
		info(app("x", 2), got("p", 8), saw("x", 8), put("p", 3)),
		ok(saw("x", 1, 2), got("p", 3)),
		ok(saw("x")),
		{State: api.TxFail, Ops: []api.Op{saw("x", 1), app("x", 7)}},
		{Ops: []api.Op{saw("x", 1), app("x", 8)}},
		{State: 99, Ops: []api.Op{saw("x", 9)}},
		ok(),
		ok(saw("x", 1, 7)),
		ok(saw("x", 1, 8)),
	}
	for name, c := range map[string]struct {
		order []int
		want  bool
	}{
		"nothing":                 {nil, true},
		"an empty order":          {[]int{}, true},
		"in order":                {[]int{0, 1}, true},
		"in another order":        {[]int{1, 0}, false},
		"from an empty state on":  {[]int{4}, true},
		"not from an empty state": {[]int{1}, false},
		"all of some":             {[]int{4, 8, 0, 1, 2, 3}, true},
		"not all":                 {[]int{0, 2, 3}, true},
		"of unknown end: blind":   {[]int{2}, true},
		"it is done, though":      {[]int{0, 2, 1}, false},
		"it is not done":          {[]int{0, 3}, false},
		"failed: not blind":       {[]int{0, 5, 9}, true},
		"failed: not blind, no":   {[]int{5}, false},
		"no state: not blind":     {[]int{0, 6, 10}, true},
		"no state: not blind, no": {[]int{0, 6, 9}, false},
		"such a state: not blind": {[]int{0, 7}, false},
		"twice":                   {[]int{8, 8}, false},
		"twice, far off":          {[]int{4, 8, 0, 1, 4}, false},
		"twice, of unknown end":   {[]int{2, 2}, false},
		"below 0":                 {[]int{-1}, false},
		"below 0, behind others":  {[]int{0, 1, -1}, false},
		"no such place":           {[]int{11}, false},
		"the least number":        {[]int{math.MinInt}, false},
		"the greatest number":     {[]int{8, math.MaxInt}, false},
		"a wrong one in between":  {[]int{0, 3, 1}, false},
	} {
		if got := Replay(l, c.order); got != c.want {
			t.Errorf("%s: %v", name, got)
		}
	}
	if !Replay(nil, nil) || Replay(nil, []int{0}) || !Replay([]api.Txn{}, []int{}) {
		t.Error("no transactions")
	}
}

// Objects: a nil state, and one that no call made.
func TestNoState(t *testing.T) {
	for _, s := range []*State{nil, {}} {
		if s.Apply(nil, false) || s.Apply(nil, true) || s.Apply([]api.Op{app("x", 1), put("x", 1)}, true) {
			t.Error("it applies")
		}
		if v, ok := s.Value("x"); len(s.List("x")) != 0 || v != 0 || ok || s.Text() != "" || s.Copy() != nil {
			t.Error(s.List("x"), v, ok, s.Text())
		}
	}
}

// world is lists and registers in the chapter's plainest words: by kind and key, and copied whole ahead of each transaction.
type world map[string][]int

// do is the world behind operations; false: one reads otherwise.
func (w world) do(l []api.Op, blind bool) (world, bool) {
	next := maps.Clone(w)
	for _, o := range l {
		list, reg := next["l"+o.Key], next["r"+o.Key]
		switch {
		case o.Kind == api.OpAppend:
			next["l"+o.Key] = slices.Concat(list, []int{o.Value})
		case o.Kind == api.OpWrite:
			next["r"+o.Key] = []int{o.Value}
		case blind || !o.Has:
		case o.Kind == api.OpRead && !slices.Equal(o.List, list):
			return w, false
		case o.Kind == api.OpGet && o.Nil && len(reg) != 0:
			return w, false
		case o.Kind == api.OpGet && !o.Nil && !slices.Equal(reg, []int{o.Value}):
			return w, false
		}
	}
	return next, true
}

// some is operations at random, whose reads are mostly of what there is.
func some(r *rand.Rand, w world) []api.Op {
	var l []api.Op
	for range r.Intn(5) {
		key := []string{"x", "y", "", "x 1"}[r.Intn(4)]
		now, _ := w.do(l, true)
		value := r.Intn(3)
		if r.Intn(12) > 0 {
			value = append(now["r"+key], 0)[0]
		}
		switch r.Intn(6) {
		case 0:
			l = append(l, app(key, r.Intn(3)))
		case 1:
			l = append(l, put(key, r.Intn(3)))
		case 2, 3:
			l = append(l, saw(key, now["l"+key]...))
			if r.Intn(12) == 0 {
				l[len(l)-1].List = append(slices.Clone(now["l"+key]), 1)
			}
		case 4:
			l = append(l, api.Op{Kind: api.OpGet, Key: key, Value: value, Has: true, Nil: (len(now["r"+key]) == 0) == (r.Intn(12) > 0)})
		case 5:
			l = append(l, api.Op{Kind: r.Intn(6), Key: key, Value: 1})
		}
	}
	return l
}

// same tells whether a state is a world.
func same(s *State, w world) bool {
	for _, key := range []string{"x", "y", "", "x 1", "z"} {
		v, ok := s.Value(key)
		reg := w["r"+key]
		if !slices.Equal(s.List(key), w["l"+key]) || ok != (len(reg) > 0) || ok && v != reg[0] {
			return false
		}
	}
	return true
}

// P16.1 to P16.5, at random, against the plain model.
func TestAtRandom(t *testing.T) {
	r := rand.New(rand.NewSource(16))
	applied, refused, both := 0, 0, 0
	texts := map[string]world{}
	for range 3000 {
		s, w := New(), world{}
		for range 1 + r.Intn(6) {
			l, blind := some(r, w), r.Intn(5) == 0
			cut := r.Intn(len(l) + 1)
			parts := s.Copy()
			next, want := w.do(l, blind)
			if ok := s.Apply(l, blind); ok != want || !same(s, next) {
				t.Fatal(l, blind, ok, s.Text())
			}
			if parts.Apply(l[:cut], blind) && parts.Apply(l[cut:], blind) {
				both++
				if !want || parts.Text() != s.Text() {
					t.Fatal(l, cut, parts.Text(), s.Text())
				}
			} else if want {
				t.Fatal(l, cut)
			}
			w = next
			if want {
				applied++
			} else {
				refused++
			}
			if other, old := texts[s.Text()]; old && !reflect.DeepEqual(other, w) {
				t.Fatal(other, w, s.Text())
			}
			texts[s.Text()] = w
		}
	}
	kinds := map[string]int{}
	for text, w := range texts {
		var b strings.Builder
		for _, key := range slices.Sorted(maps.Keys(w)) {
			b.WriteString(strconv.Quote(key))
			for _, v := range w[key] {
				b.WriteString(" " + strconv.Itoa(v))
			}
		}
		kinds[b.String()]++
		if kinds[b.String()] > 1 {
			t.Fatal("two texts", text, w)
		}
	}
	if applied < 3000 || refused < 500 || both < 3000 || len(texts) < 1000 {
		t.Error("too few", applied, refused, both, len(texts))
	}
}

// P16.4 at random, against the plain model.
func TestReplayAtRandom(t *testing.T) {
	r := rand.New(rand.NewSource(164))
	count := map[bool]int{}
	for range 10000 {
		l := make([]api.Txn, 1+r.Intn(4))
		w := world{}
		for n := range l {
			l[n] = api.Txn{State: []int{api.TxOk, api.TxOk, api.TxInfo, api.TxFail, 0}[r.Intn(5)], Ops: some(r, w)}
			w, _ = w.do(l[n].Ops, true)
		}
		order := make([]int, len(l))
		for i := range order {
			order[i] = i
		}
		switch r.Intn(4) {
		case 0:
			order = r.Perm(len(l))[:r.Intn(len(l)+1)]
		case 1:
			order[r.Intn(len(l))] = r.Intn(len(l)+2) - 1
		}
		w = world{}
		want := true
		for i, n := range order {
			want = want && n >= 0 && n < len(l) && !slices.Contains(order[:i], n)
			if want {
				w, want = w.do(l[n].Ops, l[n].State == api.TxInfo)
			}
		}
		if Replay(l, order) != want {
			t.Fatal(l, order, want)
		}
		count[want]++
	}
	if count[true] < 1000 || count[false] < 1000 {
		t.Error("too few", count)
	}
}

// Memory: what is handed in is as it was, the room behind it, too, and is not kept; answers are new.
func TestMemory(t *testing.T) {
	make2 := func() []api.Op {
		room := append(make([]int, 0, 8), 1, 2, 7, 7)
		return []api.Op{app("x", 1), app("x", 2), {Kind: api.OpRead, Key: "x", Has: true, List: room[:2]}, app("x", 3), put("p", 4), got("p", 4), put("p", 9), app("x", 9)}
	}
	l := make2()
	s := New()
	if !s.Apply(l[:5], false) || s.Apply([]api.Op{app("x", 5), l[2]}, false) || !s.Apply(l[5:6], false) {
		t.Fatal(s.Text())
	}
	if !reflect.DeepEqual(l, make2()) || !slices.Equal(l[2].List[:4], []int{1, 2, 7, 7}) {
		t.Fatal(l)
	}
	clear(l[2].List[:4])
	clear(l)
	list := s.List("x")
	for _, x := range [][]int{list, s.List("x")} {
		clear(x[:cap(x)])
	}
	c := s.Copy()
	if !c.Apply([]api.Op{saw("x", 1, 2, 3), app("x", 4)}, false) || !s.Apply([]api.Op{saw("x", 1, 2, 3), app("x", 5), got("p", 4)}, false) {
		t.Fatal(s.Text(), c.Text())
	}
	if !slices.Equal(list, []int{0, 0, 0}) || !slices.Equal(c.List("x"), []int{1, 2, 3, 4}) || !slices.Equal(s.List("x"), []int{1, 2, 3, 5}) {
		t.Fatal(list, c.List("x"), s.List("x"))
	}
	txns := []api.Txn{{State: api.TxOk, Ops: make2()[:5]}, {State: api.TxInfo, Ops: make2()[5:]}, {}}
	order := []int{1, 0, 9}
	if !Replay(txns[:2], order[1:2]) || Replay(txns[:2], order[:2]) || !slices.Equal(order, []int{1, 0, 9}) ||
		!reflect.DeepEqual(txns, []api.Txn{{State: api.TxOk, Ops: make2()[:5]}, {State: api.TxInfo, Ops: make2()[5:]}, {}}) {
		t.Fatal(txns, order)
	}
}

// Ends: many operations, keys and transactions, and an order that is longer than all of them.
func TestLong(t *testing.T) {
	const many = 200000
	var l []api.Op
	txns := make([]api.Txn, many)
	order := make([]int, many)
	var values []int
	for i := range many {
		o := app("x"+strconv.Itoa(i%1000), i)
		if i%1000 == 7 {
			values = append(values, i)
		}
		l = append(l, o, put("p"+strconv.Itoa(i), i))
		txns[i] = api.Txn{State: api.TxOk, Ops: []api.Op{o, put("p", i), got("p", i)}}
		order[i] = many - 1 - i
	}
	s := after(t, l...)
	text := s.Text()
	if !slices.Equal(s.List("x7"), values) || s.Apply(append(slices.Clone(l), none("p7")), false) || s.Text() != text || s.Copy().Text() != text {
		t.Fatal(len(s.List("x7")))
	}
	if !Replay(txns, order) || Replay(txns, append(order, 0)) || Replay(nil, order) {
		t.Fatal("replay")
	}
	slices.Reverse(values)
	if last := (api.Txn{State: api.TxOk, Ops: []api.Op{saw("x7", values...)}}); !Replay(append(txns, last), append(order, many)) {
		t.Fatal("replay, all in their order")
	}
}
