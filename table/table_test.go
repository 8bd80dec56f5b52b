package table

import (
	"math"
	"math/rand"
	"reflect"
	"slices"
	"testing"

	"assayer/api"
)

func app(key string, value int) api.Op { return api.Op{Kind: api.OpAppend, Key: key, Value: value} }
func put(key string, value int) api.Op { return api.Op{Kind: api.OpWrite, Key: key, Value: value} }
func read(key string, l ...int) api.Op {
	return api.Op{Kind: api.OpRead, Key: key, List: l, Has: true}
}

func txns(l ...[]api.Op) []api.Txn {
	var x []api.Txn
	for i, o := range l {
		x = append(x, api.Txn{Proc: i, State: 1 + i%3, From: 2 * i, To: 2*i + 1, Ops: o})
	}
	return x
}

func ordinary() []api.Txn {
	return txns(
		[]api.Op{app("x", 1), put("p", 1), app("x", 2), read("y", 1, 2), app("x", 3)},
		[]api.Op{app("x", 4), {Kind: api.OpGet, Key: "q", Has: true, Nil: true}, put("p", 2)},
		nil,
		[]api.Op{put("p", 3), {Kind: api.OpRead, Key: "x"}, {Kind: api.OpGet, Key: "a"}, put("p", 0)},
	)
}

// P4.1
func TestCountAndTxn(t *testing.T) {
	l := ordinary()
	x := New(l)
	if x.Count() != 4 {
		t.Fatal(x.Count())
	}
	for n := range l {
		if !reflect.DeepEqual(x.Txn(n), ordinary()[n]) {
			t.Fatalf("%d: %v", n, x.Txn(n))
		}
	}
	for _, n := range []int{-1, 4, 5, math.MinInt, math.MaxInt} {
		if !reflect.DeepEqual(x.Txn(n), api.Txn{}) {
			t.Fatalf("%d: %v", n, x.Txn(n))
		}
	}
	for _, none := range []*Table{New(nil), New([]api.Txn{})} {
		if none == nil || none.Count() != 0 || len(none.Keys()) != 0 || !none.Unique() || !reflect.DeepEqual(none.Txn(0), api.Txn{}) {
			t.Fatal("a table of nothing")
		}
	}
}

// P4.1: a transaction is handed back as it was, whatever it is.
func TestTxnMadeByHand(t *testing.T) {
	odd := api.Txn{Proc: -7, State: 99, From: math.MaxInt, To: math.MinInt, Ops: []api.Op{{Kind: 12, Key: "", Value: 4, List: []int{5}, Nil: true}}}
	x := New([]api.Txn{{}, odd})
	if x.Count() != 2 || !reflect.DeepEqual(x.Txn(0), api.Txn{}) || !reflect.DeepEqual(x.Txn(1), odd) {
		t.Fatal(x.Txn(0), x.Txn(1))
	}
}

// P4.2: Keys and Kind.
func TestKeysAndKind(t *testing.T) {
	x := New(ordinary())
	if !slices.Equal(x.Keys(), []string{"a", "p", "q", "x", "y"}) {
		t.Fatal(x.Keys())
	}
	for key, kind := range map[string]int{"x": api.OpAppend, "y": api.OpAppend, "p": api.OpWrite, "q": api.OpWrite, "a": api.OpWrite, "": 0, "z": 0, "xx": 0} {
		if x.Kind(key) != kind {
			t.Errorf("%q: %d", key, x.Kind(key))
		}
	}
}

// P4.2: a key's kind is that of its first operation, of whatever transaction; kinds that are none do not count.
func TestKindOfTheFirst(t *testing.T) {
	x := New(txns(
		[]api.Op{{Kind: 9, Key: "k"}, {Kind: 0, Key: "n"}, {Kind: -1, Key: "n"}, {Kind: 5, Key: "n"}, {Kind: api.OpGet, Key: "g"}},
		[]api.Op{{Kind: api.OpRead, Key: "r"}, put("r", 1), app("g", 1), put("k", 1), app("k", 1)},
		[]api.Op{app("w", 1)},
		[]api.Op{put("w", 1), {Kind: api.OpRead, Key: ""}},
	))
	if !slices.Equal(x.Keys(), []string{"", "g", "k", "r", "w"}) {
		t.Fatal(x.Keys())
	}
	for key, kind := range map[string]int{"": api.OpAppend, "g": api.OpWrite, "k": api.OpWrite, "r": api.OpAppend, "w": api.OpAppend, "n": 0} {
		if x.Kind(key) != kind {
			t.Errorf("%q: %d", key, x.Kind(key))
		}
	}
}

// P4.2: rising is by bytes.
func TestKeysRise(t *testing.T) {
	x := New(txns([]api.Op{app("b", 1), app("a10", 1), app("a9", 1), app("\xff", 1), app("Z", 1), app("b", 2), app("", 1), app("é", 1)}))
	if !slices.Equal(x.Keys(), []string{"", "Z", "a10", "a9", "b", "é", "\xff"}) {
		t.Fatalf("%q", x.Keys())
	}
}

// P4.2: Writers, by transaction, then by operation, whatever the state.
func TestWriters(t *testing.T) {
	x := New(txns(
		[]api.Op{app("x", 1), app("y", 1), app("x", 1), read("x", 1)},
		[]api.Op{app("x", 1), put("x", 1), app("x", 2), {Kind: api.OpGet, Key: "x", Value: 1, Has: true}},
		[]api.Op{{Kind: 9, Key: "x", Value: 1}, app("x", 1), app("x", math.MinInt)},
		[]api.Op{app("x", 1)},
	))
	for _, c := range []struct {
		key   string
		value int
		want  []api.Write
	}{
		{"x", 1, []api.Write{{Txn: 0, Op: 0}, {Txn: 0, Op: 2}, {Txn: 1, Op: 0}, {Txn: 1, Op: 1}, {Txn: 2, Op: 1}, {Txn: 3, Op: 0}}},
		{"x", 2, []api.Write{{Txn: 1, Op: 2}}},
		{"y", 1, []api.Write{{Txn: 0, Op: 1}}},
		{"x", math.MinInt, []api.Write{{Txn: 2, Op: 2}}},
		{"x", 0, nil}, {"y", 2, nil}, {"z", 1, nil}, {"", 0, nil},
	} {
		if got := x.Writers(c.key, c.value); !slices.Equal(got, c.want) {
			t.Errorf("%q %d: %v", c.key, c.value, got)
		}
	}
}

// P4.2: Final, with the chapter's example.
func TestFinal(t *testing.T) {
	x := New(txns([]api.Op{app("x", 1), app("x", 2)}))
	if x.Final(api.Write{Op: 0}) || !x.Final(api.Write{Op: 1}) {
		t.Fatal("the example")
	}
	x = New(txns(
		[]api.Op{app("x", 1), put("x", 1), read("x"), app("y", 1), {Kind: 9, Key: "x"}},
		[]api.Op{app("x", 2), app("x", 2)},
		[]api.Op{read("x", 1)},
	))
	final := []api.Write{{Txn: 0, Op: 1}, {Txn: 0, Op: 3}, {Txn: 1, Op: 1}}
	for n := -2; n < 5; n++ {
		for i := -2; i < 7; i++ {
			w := api.Write{Txn: n, Op: i}
			if x.Final(w) != slices.Contains(final, w) {
				t.Errorf("%v: %v", w, x.Final(w))
			}
		}
	}
	for _, n := range []int{math.MinInt, math.MaxInt} {
		if x.Final(api.Write{Txn: n}) || x.Final(api.Write{Op: n}) {
			t.Error(n)
		}
	}
}

// P4.2: Unique.
func TestUnique(t *testing.T) {
	for _, c := range []struct {
		l    []api.Txn
		want bool
	}{
		{ordinary(), true},
		{txns([]api.Op{app("x", 1), app("x", 2)}, []api.Op{app("y", 1), app("y", 2)}), true},
		{txns([]api.Op{app("x", 1), app("x", 1)}), false},
		{txns([]api.Op{app("x", 1)}, nil, []api.Op{app("x", 1)}), false},
		{txns([]api.Op{app("x", 1)}, []api.Op{put("x", 1)}), false},
		{txns([]api.Op{app("x", 1)}, []api.Op{app("x", 1)}, []api.Op{app("x", 2)}), false},
		{txns([]api.Op{app("x", 1), {Kind: 9, Key: "x", Value: 1}, {Kind: api.OpGet, Key: "x", Value: 1, Has: true}}), true},
		{txns([]api.Op{read("x", 1, 1), read("x", 1, 1)}), true},
	} {
		if New(c.l).Unique() != c.want {
			t.Errorf("%v: %v", c.l, !c.want)
		}
	}
}

// Rule 'Objects': a nil table, and one that no call made, answer zero values.
func TestNoTable(t *testing.T) {
	for _, x := range []*Table{nil, {}} {
		if len(x.Keys()) != 0 || x.Kind("x") != 0 || x.Kind("") != 0 || len(x.Writers("", 0)) != 0 || x.Final(api.Write{}) || x.Unique() || x.Count() != 0 || !reflect.DeepEqual(x.Txn(0), api.Txn{}) {
			t.Fatal(x)
		}
	}
}

// some is transactions of which nothing need be right.
func some(r *rand.Rand) []api.Txn {
	x := make([]api.Txn, r.Intn(6))
	for n := range x {
		x[n] = api.Txn{Proc: r.Intn(3), State: r.Intn(5), From: r.Intn(9), To: r.Intn(9) - 1}
		for range r.Intn(6) {
			x[n].Ops = append(x[n].Ops, api.Op{Kind: r.Intn(7) - 1, Key: string("xyz"[r.Intn(3)]), Value: r.Intn(6), Has: r.Intn(2) == 0})
		}
	}
	return x
}

func isWrite(o api.Op) bool { return o.Kind == api.OpAppend || o.Kind == api.OpWrite }

// P4.2 to P4.4 of many tables, by the chapter's words.
func TestManyTables(t *testing.T) {
	r := rand.New(rand.NewSource(4))
	for range 5000 {
		l := some(r)
		x := New(l)
		unique := true
		for _, key := range []string{"w", "x", "y", "z"} {
			checkKey(t, l, x, key)
			for value := range 7 {
				w := writers(l, key, value)
				unique = unique && len(w) < 2
				if !slices.Equal(x.Writers(key, value), w) {
					t.Fatalf("%v: Writers(%q, %d): %v", l, key, value, x.Writers(key, value))
				}
			}
		}
		if x.Unique() != unique {
			t.Fatalf("%v: Unique %v", l, x.Unique())
		}
		checkFinals(t, l, x)
	}
}

func writers(l []api.Txn, key string, value int) []api.Write {
	var w []api.Write
	for n := range l {
		for i, o := range l[n].Ops {
			if isWrite(o) && o.Key == key && o.Value == value {
				w = append(w, api.Write{Txn: n, Op: i})
			}
		}
	}
	return w
}

func checkKey(t *testing.T, l []api.Txn, x *Table, key string) {
	t.Helper()
	kind := 0
	for _, one := range slices.Backward(l) {
		for _, o := range slices.Backward(one.Ops) {
			if o.Key == key && o.Kind >= api.OpAppend && o.Kind <= api.OpGet {
				kind = o.Kind - (o.Kind+1)%2
			}
		}
	}
	if x.Kind(key) != kind || slices.Contains(x.Keys(), key) != (kind != 0) || !slices.IsSorted(x.Keys()) || len(slices.Compact(x.Keys())) != len(x.Keys()) {
		t.Fatalf("%v: Kind(%q) %d, Keys %v", l, key, x.Kind(key), x.Keys())
	}
}

func checkFinals(t *testing.T, l []api.Txn, x *Table) {
	t.Helper()
	for n := range l {
		finals := map[string]int{}
		for i, o := range l[n].Ops {
			w := api.Write{Txn: n, Op: i}
			final := isWrite(o)
			for _, p := range l[n].Ops[i+1:] {
				final = final && !(isWrite(p) && p.Key == o.Key)
			}
			if x.Final(w) != final {
				t.Fatalf("%v: Final(%v) %v", l, w, x.Final(w))
			}
			if isWrite(o) && !slices.Contains(x.Writers(o.Key, o.Value), w) {
				t.Fatalf("%v: %v is none of its value's writers", l, w)
			}
			if isWrite(o) {
				finals[o.Key] += 0
			}
			if final {
				finals[o.Key]++
			}
		}
		for key, many := range finals {
			if many != 1 {
				t.Fatalf("%v: transaction %d has %d final writes of %q", l, n, many, key)
			}
		}
	}
}

// Rule 'Memory': a table keeps nothing of what it is handed, and hands out nothing of its own.
func TestMemory(t *testing.T) {
	room := func() []api.Txn {
		list := append(make([]int, 0, 8), 1, 2)
		o := append(make([]api.Op, 0, 8), app("x", 1), app("x", 2), read("y", 0))
		o[2].List = list
		return append(make([]api.Txn, 0, 8), api.Txn{Ops: o}, api.Txn{Ops: o})
	}
	l := room()
	x := New(l)
	if !reflect.DeepEqual(l, room()) {
		t.Fatal("what was handed in is changed", l)
	}
	whole := func() bool {
		return reflect.DeepEqual([]api.Txn{x.Txn(0), x.Txn(1)}, room()) && slices.Equal(x.Keys(), []string{"x", "y"}) &&
			slices.Equal(x.Writers("x", 1), []api.Write{{Txn: 0}, {Txn: 1}}) && slices.Equal(x.Writers("x", 2), []api.Write{{Txn: 0, Op: 1}, {Txn: 1, Op: 1}}) &&
			x.Final(api.Write{Op: 1}) && !x.Final(api.Write{}) && x.Count() == 2
	}
	if !whole() {
		t.Fatal(x.Txn(0))
	}
	one := x.Txn(0)
	one.Ops[2].List[0], one.Ops[0].Key = 99, "other"
	_ = append(one.Ops, api.Op{Kind: 98})
	_ = append(one.Ops[2].List, 97)
	keys, w := x.Keys(), x.Writers("x", 1)
	keys[0], w[0].Txn = "other", 96
	_ = append(keys, "more")
	_ = append(w, api.Write{Txn: 95})
	if !whole() || !reflect.DeepEqual(l, room()) || l[0].Ops[:4][3].Kind != 0 || l[0].Ops[2].List[:3][2] != 0 {
		t.Fatal("an answer shares memory")
	}
	l[0].Ops[2].List[0], l[0].Ops[0].Key, l[1].Proc = 94, "other", 93
	l[1].Ops = nil
	if !whole() {
		t.Fatal("what was handed in is kept")
	}
}

// Rule 'Ends', of many writes: each call is done at once.
func TestManyWrites(t *testing.T) {
	const many = 100000
	long := api.Txn{}
	for i := range many {
		long.Ops = append(long.Ops, app("x", i))
	}
	x := New([]api.Txn{long})
	for i := range many {
		if x.Final(api.Write{Op: i}) != (i == many-1) || len(x.Writers("x", i)) != 1 {
			t.Fatal(i)
		}
	}
	if !x.Unique() {
		t.Fatal("not unique")
	}
}
