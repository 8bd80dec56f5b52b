package inner

import (
	"math"
	"math/rand"
	"reflect"
	"slices"
	"testing"

	"assayer/api"
)

func app(key string, value int) api.Op { return api.Op{Kind: api.OpAppend, Key: key, Value: value} }
func put(key string, value int) api.Op { return api.Op{Kind: api.OpWrite, Key: key, Value: value} }
func read(key string, l ...int) api.Op {
	return api.Op{Kind: api.OpRead, Key: key, List: l, Has: true}
}
func get(key string, value int) api.Op {
	return api.Op{Kind: api.OpGet, Key: key, Value: value, Has: true}
}
func getNone(key string) api.Op { return api.Op{Kind: api.OpGet, Key: key, Nil: true, Has: true} }

// P9.1: the chapter's examples, and lists.
func TestCheckLists(t *testing.T) {
	for name, c := range map[string]struct {
		l    []api.Op
		want int
	}{
		"the example":                    {[]api.Op{app("x", 1), read("x", 7, 1), app("x", 2), read("x", 7, 1, 2)}, -1},
		"no operations":                  {nil, -1},
		"an empty list":                  {[]api.Op{}, -1},
		"one read":                       {[]api.Op{read("x", 3, 3)}, -1},
		"a read of nothing":              {[]api.Op{read("x"), read("x")}, -1},
		"nothing, nil or empty":          {[]api.Op{{Kind: api.OpRead, Key: "x", Has: true, List: []int{}}, read("x")}, -1},
		"it grows by itself":             {[]api.Op{read("x"), read("x", 1)}, 1},
		"it shrinks":                     {[]api.Op{read("x", 1, 2), read("x", 1)}, 1},
		"another value":                  {[]api.Op{read("x", 1, 2), read("x", 1, 3)}, 1},
		"an append is lost":              {[]api.Op{read("x", 1), app("x", 2), read("x", 1)}, 2},
		"an append comes first":          {[]api.Op{read("x", 1), app("x", 2), read("x", 2, 1)}, 2},
		"only what was appended":         {[]api.Op{app("x", 1), app("x", 2), read("x", 1, 2)}, -1},
		"it ends so":                     {[]api.Op{app("x", 1), app("x", 2), read("x", 8, 1, 9, 1, 2)}, -1},
		"it ends otherwise":              {[]api.Op{app("x", 1), app("x", 2), read("x", 1, 2, 9)}, 2},
		"it ends with the last alone":    {[]api.Op{app("x", 1), app("x", 2), read("x", 7, 2)}, 2},
		"in another order":               {[]api.Op{app("x", 1), app("x", 2), read("x", 2, 1)}, 2},
		"shorter than what was appended": {[]api.Op{app("x", 1), app("x", 2), read("x", 2)}, 2},
		"empty behind an append":         {[]api.Op{app("x", 1), read("x")}, 1},
		"known from then on":             {[]api.Op{app("x", 1), read("x", 7, 1), app("x", 2), read("x", 8, 7, 1, 2)}, 3},
		"the first one":                  {[]api.Op{read("x"), read("y"), read("y", 1), read("x", 1)}, 2},
		"the same value twice":           {[]api.Op{app("x", 1), app("x", 1), read("x", 1)}, 2},
		"keys by themselves":             {[]api.Op{app("x", 1), read("y"), app("y", 2), read("x", 1), read("y", 2)}, -1},
		"greatest values":                {[]api.Op{app("", math.MaxInt), read("", math.MinInt, math.MaxInt), read("", math.MinInt, math.MinInt)}, 2},
	} {
		if got := Check(c.l); got != c.want {
			t.Errorf("%s: %d", name, got)
		}
	}
}

// P9.1: registers.
func TestCheckRegisters(t *testing.T) {
	for name, c := range map[string]struct {
		l    []api.Op
		want int
	}{
		"the example":              {[]api.Op{get("x", 1), get("x", 2)}, 1},
		"alike":                    {[]api.Op{get("x", 1), get("x", 1), get("x", 1)}, -1},
		"what was written":         {[]api.Op{put("x", 5), get("x", 5), put("x", 6), get("x", 6)}, -1},
		"another one":              {[]api.Op{put("x", 5), get("x", 6)}, 1},
		"what was written over":    {[]api.Op{put("x", 5), put("x", 6), get("x", 5)}, 2},
		"what was got before":      {[]api.Op{get("x", 5), put("x", 6), get("x", 5)}, 2},
		"none":                     {[]api.Op{getNone("x"), getNone("x")}, -1},
		"none, then one":           {[]api.Op{getNone("x"), get("x", 0)}, 1},
		"one, then none":           {[]api.Op{get("x", 0), getNone("x")}, 1},
		"none of a written one":    {[]api.Op{put("x", 0), getNone("x")}, 1},
		"none, then written":       {[]api.Op{getNone("x"), put("x", 3), get("x", 3)}, -1},
		"none, and numbers by it":  {[]api.Op{{Kind: api.OpGet, Key: "x", Has: true, Nil: true, Value: 4}, getNone("x")}, -1},
		"a write is not none":      {[]api.Op{{Kind: api.OpWrite, Key: "x", Value: 4, Nil: true}, get("x", 4)}, -1},
		"keys by themselves":       {[]api.Op{put("x", 5), get("y", 1), put("y", 2), get("x", 5), get("y", 2)}, -1},
		"the first one":            {[]api.Op{get("x", 1), get("y", 1), get("y", 2), get("x", 2)}, 2},
		"a list of the same key":   {[]api.Op{put("x", 5), read("x"), app("x", 1), get("x", 5), read("x", 1)}, -1},
		"and its faults":           {[]api.Op{read("x", 1), get("x", 5), app("x", 6), get("x", 6)}, 3},
		"a register of that key":   {[]api.Op{app("x", 1), put("x", 2), read("x", 2)}, 2},
		"a write behind no get":    {[]api.Op{put("x", 5)}, -1},
		"greatest values":          {[]api.Op{put("", math.MaxInt), get("", math.MinInt)}, 1},
		"a get has no list":        {[]api.Op{{Kind: api.OpGet, Key: "x", Has: true, Value: 1, List: []int{2}}, get("x", 1)}, -1},
		"an append is by its list": {[]api.Op{{Kind: api.OpAppend, Key: "x", Value: 1, List: []int{2}, Has: true, Nil: true}, read("x", 1)}, -1},
	} {
		if got := Check(c.l); got != c.want {
			t.Errorf("%s: %d", name, got)
		}
	}
}

// P9.1, P9.2: reads without Has, and kinds that are none, say nothing.
func TestNothingSaid(t *testing.T) {
	var l []api.Op
	for _, kind := range []int{0, -1, 5, math.MaxInt, math.MinInt} {
		l = append(l, api.Op{Kind: kind, Key: "x", Value: 1, List: []int{1}, Has: true})
	}
	l = append(l, api.Op{Kind: api.OpRead, Key: "x", List: []int{1}}, api.Op{Kind: api.OpGet, Key: "x", Value: 1})
	if Check(l) != -1 || len(External(l)) != 0 || len(Finals(l)) != 0 {
		t.Fatal(Check(l), External(l), Finals(l))
	}
	n := len(l)
	l = append(l, read("x"), get("x", 2))
	l = append(l, l[:n]...)
	l = append(l, read("x"), get("x", 2), app("x", 1), put("x", 2))
	m := len(l)
	l = append(l, l[:n]...)
	if Check(l) != -1 || !slices.Equal(External(l), []int{n, n + 1}) || !slices.Equal(Finals(l), []int{m - 2, m - 1}) {
		t.Fatal(Check(l), External(l), Finals(l))
	}
}

// P9.2: External and Finals.
func TestExternalAndFinals(t *testing.T) {
	for name, c := range map[string]struct {
		l               []api.Op
		outer, lastOnes []int
	}{
		"nothing":              {nil, nil, nil},
		"one read":             {[]api.Op{read("x")}, []int{0}, nil},
		"one get":              {[]api.Op{getNone("x")}, []int{0}, nil},
		"one append":           {[]api.Op{app("x", 1)}, nil, []int{0}},
		"one write":            {[]api.Op{put("x", 1)}, nil, []int{0}},
		"a read again":         {[]api.Op{read("x"), read("x"), get("y", 1), get("y", 1)}, []int{0, 2}, nil},
		"behind a write":       {[]api.Op{app("x", 1), read("x", 1), put("y", 1), get("y", 1)}, nil, []int{0, 2}},
		"ahead of a write":     {[]api.Op{read("x"), app("x", 1), read("x", 1), get("y", 1), put("y", 2)}, []int{0, 3}, []int{1, 4}},
		"writes over":          {[]api.Op{app("x", 1), put("y", 1), app("x", 1), put("y", 1), app("x", 3)}, nil, []int{3, 4}},
		"keys of two kinds":    {[]api.Op{app("x", 1), get("x", 1), put("x", 2), read("x"), app("y", 1), put("y", 1)}, []int{1}, []int{0, 2, 4, 5}},
		"keys that look alike": {[]api.Op{read("x"), read("xx"), read(""), read("X")}, []int{0, 1, 2, 3}, nil},
		"without Has, then so": {[]api.Op{{Kind: api.OpRead, Key: "x"}, read("x"), {Kind: api.OpGet, Key: "y"}, get("y", 1)}, []int{1, 3}, nil},
	} {
		if got := External(c.l); !slices.Equal(got, c.outer) {
			t.Errorf("%s: External %v", name, got)
		}
		if got := Finals(c.l); !slices.Equal(got, c.lastOnes) {
			t.Errorf("%s: Finals %v", name, got)
		}
	}
}

// P9.2: places rise, however many keys there are, and are the same each time.
func TestPlacesRise(t *testing.T) {
	var l []api.Op
	var outer, finals []int
	for i := range 40 {
		key := string(rune('a' + (i*7)%40))
		outer, finals = append(outer, 2*i), append(finals, 2*i+1)
		l = append(l, read(key), app(key, i))
	}
	for range 20 {
		if !slices.Equal(External(l), outer) || !slices.Equal(Finals(l), finals) {
			t.Fatal(External(l), Finals(l))
		}
	}
}

// same tells whether two operations are of one thing.
func same(a, b api.Op) bool {
	list := func(o api.Op) bool { return o.Kind == api.OpAppend || o.Kind == api.OpRead }
	return a.Key == b.Key && list(a) == list(b)
}

// does tells whether an operation is a write, and whether it reads something.
func does(o api.Op) (writes, reads bool) {
	switch o.Kind {
	case api.OpAppend, api.OpWrite:
		return true, false
	case api.OpRead, api.OpGet:
		return false, o.Has
	}
	return false, false
}

// right tells by the operations ahead of it whether a read is as it must be.
func right(l []api.Op, at int) bool {
	o := l[at]
	if o.Kind == api.OpGet {
		for i := at - 1; i >= 0; i-- {
			if w, r := does(l[i]); (w || r) && same(l[i], o) {
				return w && !o.Nil && o.Value == l[i].Value || r && o.Nil == l[i].Nil && (o.Nil || o.Value == l[i].Value)
			}
		}
		return true
	}
	var end []int
	for i := at - 1; i >= 0; i-- {
		w, r := does(l[i])
		switch {
		case !same(l[i], o):
		case w:
			end = append([]int{l[i].Value}, end...)
		case r:
			return slices.Equal(o.List, append(slices.Clone(l[i].List), end...))
		}
	}
	return len(o.List) >= len(end) && slices.Equal(o.List[len(o.List)-len(end):], end)
}

// plain is what the chapter says, word by word.
func plain(l []api.Op) (check int, outer, finals []int) {
	check = -1
	for i, o := range l {
		w, r := does(o)
		if r && check < 0 && !right(l, i) {
			check = i
		}
		ahead, behind := false, false
		for j, p := range l {
			w2, r2 := does(p)
			ahead = ahead || j < i && (w2 || r2) && same(o, p)
			behind = behind || j > i && w2 && same(o, p)
		}
		if r && !ahead {
			outer = append(outer, i)
		}
		if w && !behind {
			finals = append(finals, i)
		}
	}
	return check, outer, finals
}

// made is operations at random, many of which read what they must.
func made(r *rand.Rand) []api.Op {
	var l []api.Op
	for range r.Intn(10) {
		o := api.Op{Kind: 1 + r.Intn(4), Key: []string{"x", "y"}[r.Intn(2)], Value: r.Intn(2), Has: r.Intn(5) > 0, Nil: r.Intn(4) == 0}
		if r.Intn(12) == 0 {
			o.Kind = r.Intn(9) - 2
		}
		for range r.Intn(3) {
			o.List = append(o.List, r.Intn(2))
		}
		if _, reads := does(o); reads && r.Intn(4) > 0 {
			for try := 0; try < 60 && !right(append(slices.Clone(l), o), len(l)); try++ {
				o.Value, o.Nil, o.List = r.Intn(2), r.Intn(3) == 0, nil
				for range r.Intn(5) {
					o.List = append(o.List, r.Intn(2))
				}
			}
		}
		l = append(l, o)
	}
	return l
}

// P9.1, P9.2: against the chapter's words.
func TestAtRandom(t *testing.T) {
	r := rand.New(rand.NewSource(9))
	wrong := 0
	for range 30000 {
		l := made(r)
		check, outer, finals := plain(l)
		if Check(l) != check || !slices.Equal(External(l), outer) || !slices.Equal(Finals(l), finals) {
			t.Fatal(l, Check(l), check, External(l), outer, Finals(l), finals)
		}
		if check >= 0 {
			wrong++
		}
	}
	if wrong < 3000 || wrong > 27000 {
		t.Fatal("too much alike", wrong)
	}
}

// P9.3
func TestReadsAlike(t *testing.T) {
	r := rand.New(rand.NewSource(93))
	for range 5000 {
		var l []api.Op
		want := -1
		seen := map[string]api.Op{}
		for i := range 6 {
			o := []api.Op{read("x"), read("x", 1), read("y", 2, 1), read("y", 2), get("p", 1), get("p", 2), getNone("p"), get("q", 3)}[r.Intn(8)]
			if p, ok := seen[o.Key]; ok && !reflect.DeepEqual(p, o) && want < 0 {
				want = i
			} else if !ok {
				seen[o.Key] = o
			}
			l = append(l, o)
		}
		if Check(l) != want {
			t.Fatal(l, Check(l), want)
		}
	}
}

// P9.4: a store that does one transaction at a time.
func TestOneAtATime(t *testing.T) {
	r := rand.New(rand.NewSource(94))
	lists, regs := map[string][]int{}, map[string]int{}
	for range 3000 {
		var l []api.Op
		for range r.Intn(9) {
			key, v := []string{"x", "y", "z"}[r.Intn(3)], r.Intn(5)
			switch r.Intn(4) {
			case 0:
				lists[key] = append(lists[key], v)
				l = append(l, app(key, v))
			case 1:
				l = append(l, read(key, slices.Clone(lists[key])...))
			case 2:
				regs[key] = v
				l = append(l, put(key, v))
			case 3:
				if v, ok := regs[key]; ok {
					l = append(l, get(key, v))
				} else {
					l = append(l, getNone(key))
				}
			}
		}
		if Check(l) != -1 {
			t.Fatal(l, Check(l))
		}
		if r.Intn(20) == 0 {
			clear(lists)
			clear(regs)
		}
	}
}

// Memory: what is handed in is as it was, the room behind its lists too.
func TestHandedIn(t *testing.T) {
	room := []int{1, 2, 50, 51, 52}
	l := []api.Op{read("x", room[:2]...), app("x", 3), read("x", 1, 2, 3), app("x", 4), read("x", room[:2]...), get("y", 1)}
	behind := append(l, app("z", 9))
	was := slices.Clone(behind)
	if Check(l) != 4 || !slices.Equal(External(l), []int{0, 5}) || !slices.Equal(Finals(l), []int{3}) {
		t.Fatal(Check(l), External(l), Finals(l))
	}
	if !reflect.DeepEqual(behind, was) || !slices.Equal(room, []int{1, 2, 50, 51, 52}) {
		t.Fatal(behind, room)
	}
}

// Memory: an answer is new.
func TestAnswersAreNew(t *testing.T) {
	l := []api.Op{read("x"), read("y"), read("z"), app("x", 1), app("y", 1), app("z", 1)}
	for _, f := range []func([]api.Op) []int{External, Finals} {
		a := f(l)
		was := slices.Clone(a)
		b := f(l)
		for i := range b[:cap(b)] {
			b[:cap(b)][i] = -5
		}
		if !slices.Equal(a, was) || !slices.Equal(f(l), was) {
			t.Fatal(a, f(l))
		}
	}
}

// Ends: long lists take no longer than their length.
func TestLong(t *testing.T) {
	var l []api.Op
	var all []int
	for i := range 100000 {
		l = append(l, app("x", i), put("y", i))
		all = append(all, i)
	}
	l = append(l, read("x", all...), read("x", all...), get("y", 99999), get("y", 0))
	if Check(l) != 200003 || len(External(l)) != 0 || !slices.Equal(Finals(l), []int{199998, 199999}) {
		t.Fatal(Check(l), External(l), Finals(l))
	}
}
