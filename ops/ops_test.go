package ops

import (
	"math"
	"reflect"
	"testing"

	"assayer/api"
)

func TestKinds(t *testing.T) {
	for _, c := range []struct {
		kind, thing int
		writes      bool
	}{
		{api.OpAppend, api.OpAppend, true}, {api.OpRead, api.OpAppend, false},
		{api.OpWrite, api.OpWrite, true}, {api.OpGet, api.OpWrite, false},
		{0, 0, false}, {5, 0, false}, {-1, 0, false}, {math.MaxInt, 0, false}, {math.MinInt, 0, false},
	} {
		if Thing(c.kind) != c.thing || Writes(c.kind) != c.writes {
			t.Errorf("kind %d: %d, %v", c.kind, Thing(c.kind), Writes(c.kind))
		}
	}
}

func TestCopy(t *testing.T) {
	make2 := func() []api.Op {
		return []api.Op{
			{Kind: api.OpRead, Key: "x", List: append(make([]int, 0, 4), 1, 2), Has: true},
			{Kind: api.OpGet, Key: "y", Value: 3, Has: true, Nil: true},
		}
	}
	l := make2()
	c := Copy(l)
	if !reflect.DeepEqual(l, c) {
		t.Fatal(c)
	}
	c[0].List[0], c[1].Value = 9, 9
	_ = append(c[0].List, 8)
	_ = append(c, api.Op{Kind: 7})
	if !reflect.DeepEqual(l, make2()) || l[0].List[:3][2] != 0 {
		t.Fatal("a copy shares memory", l)
	}
	if len(Copy(nil)) != 0 || len(Copy([]api.Op{})) != 0 {
		t.Fatal("operations out of nothing")
	}
}

func TestCan(t *testing.T) {
	list := func(many int) []int { return make([]int, many) }
	for _, o := range []api.Op{
		{Kind: api.OpAppend, Key: "x"}, {Kind: api.OpAppend, Key: "abcdef", Value: math.MinInt, List: list(0)},
		{Kind: api.OpWrite, Key: "x"}, {Kind: api.OpWrite, Key: "x", Value: math.MaxInt},
		{Kind: api.OpRead, Key: "x"}, {Kind: api.OpRead, Key: "x", Has: true}, {Kind: api.OpRead, Key: "x", Has: true, List: list(api.MaxList)},
		{Kind: api.OpGet, Key: "x"}, {Kind: api.OpGet, Key: "x", Has: true}, {Kind: api.OpGet, Key: "x", Has: true, Value: 1}, {Kind: api.OpGet, Key: "x", Has: true, Nil: true},
	} {
		if !Can(o) {
			t.Error(o, "may not be")
		}
		o.Key = "1"
		if Can(o) {
			t.Error(o, "may be")
		}
	}
	for _, o := range []api.Op{
		{Key: "x"}, {Kind: 5, Key: "x"}, {Kind: -1, Key: "x"},
		{Kind: api.OpAppend, Key: "x", List: list(1)}, {Kind: api.OpAppend, Key: "x", Has: true}, {Kind: api.OpAppend, Key: "x", Nil: true},
		{Kind: api.OpWrite, Key: "x", List: list(1)}, {Kind: api.OpWrite, Key: "x", Has: true}, {Kind: api.OpWrite, Key: "x", Nil: true},
		{Kind: api.OpRead, Key: "x", Value: 1}, {Kind: api.OpRead, Key: "x", Nil: true}, {Kind: api.OpRead, Key: "x", List: list(1)},
		{Kind: api.OpRead, Key: "x", Has: true, Nil: true}, {Kind: api.OpRead, Key: "x", Has: true, List: list(api.MaxList + 1)},
		{Kind: api.OpGet, Key: "x", Value: 1}, {Kind: api.OpGet, Key: "x", Nil: true}, {Kind: api.OpGet, Key: "x", List: list(1), Has: true}, {Kind: api.OpGet, Key: "x", Has: true, Nil: true, Value: 1},
	} {
		if Can(o) {
			t.Error(o, "may be")
		}
	}
}

func TestThings(t *testing.T) {
	of := func(key string, kinds ...int) []api.Op {
		var l []api.Op
		for _, kind := range kinds {
			l = append(l, api.Op{Kind: kind, Key: key})
		}
		return l
	}
	things := Things{}
	if !things.Note(nil) || !things.Note(of("x", api.OpRead, api.OpAppend)) || !things.Note(of("p", api.OpGet, api.OpWrite, api.OpGet)) {
		t.Fatal(things)
	}
	for _, l := range [][]api.Op{of("x", api.OpGet), of("x", api.OpRead, api.OpWrite), of("p", api.OpAppend), of("p", api.OpGet, api.OpRead), of("y", api.OpRead, api.OpGet), of("z", api.OpWrite, api.OpAppend)} {
		if things.Note(l) {
			t.Error(l, things)
		}
	}
	if !things.Note(of("x", api.OpAppend)) || !things.Note(of("p", api.OpWrite)) {
		t.Error(things)
	}
}
