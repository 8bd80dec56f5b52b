package ops

import (
	"math"
	"reflect"
	"testing"

	"assayer/api"
)

func TestKinds(t *testing.T) {
	for _, c := range []struct {
		kind, thing int
		writes      bool
	}{
		{api.OpAppend, api.OpAppend, true}, {api.OpRead, api.OpAppend, false},
		{api.OpWrite, api.OpWrite, true}, {api.OpGet, api.OpWrite, false},
		{0, 0, false}, {5, 0, false}, {-1, 0, false}, {math.MaxInt, 0, false}, {math.MinInt, 0, false},
	} {
		if Thing(c.kind) != c.thing || Writes(c.kind) != c.writes {
			t.Errorf("kind %d: %d, %v", c.kind, Thing(c.kind), Writes(c.kind))
		}
	}
}

func TestCopy(t *testing.T) {
	make2 := func() []api.Op {
		return []api.Op{
			{Kind: api.OpRead, Key: "x", List: append(make([]int, 0, 4), 1, 2), Has: true},
			{Kind: api.OpGet, Key: "y", Value: 3, Has: true, Nil: true},
		}
	}
	l := make2()
	c := Copy(l)
	if !reflect.DeepEqual(l, c) {
		t.Fatal(c)
	}
	c[0].List[0], c[1].Value = 9, 9
	_ = append(c[0].List, 8)
	_ = append(c, api.Op{Kind: 7})
	if !reflect.DeepEqual(l, make2()) || l[0].List[:3][2] != 0 {
		t.Fatal("a copy shares memory", l)
	}
	if len(Copy(nil)) != 0 || len(Copy([]api.Op{})) != 0 {
		t.Fatal("operations out of nothing")
	}
}
