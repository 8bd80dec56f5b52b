package search

import (
	"math"
	"reflect"
	"slices"
	"testing"

	"assayer/api"
)

func app(key string, value int) api.Op { return api.Op{Kind: api.OpAppend, Key: key, Value: value} }
func set(key string, value int) api.Op { return api.Op{Kind: api.OpWrite, Key: key, Value: value} }
func saw(key string, l ...int) api.Op {
	return api.Op{Kind: api.OpRead, Key: key, List: l, Has: true}
}
func got(key string, value int) api.Op {
	return api.Op{Kind: api.OpGet, Key: key, Value: value, Has: true}
}
func unset(key string) api.Op { return api.Op{Kind: api.OpGet, Key: key, Has: true, Nil: true} }

func in(state, from, to int, l ...api.Op) api.Txn {
	return api.Txn{State: state, From: from, To: to, Ops: l}
}
func at(from, to int, l ...api.Op) api.Txn   { return in(api.TxOk, from, to, l...) }
func open(from, to int, l ...api.Op) api.Txn { return in(api.TxInfo, from, to, l...) }

// P17.1: at the edges of what is said of an order.
func TestRight(t *testing.T) {
	x1, x2, rx, r1, r12 := app("x", 1), app("x", 2), saw("x"), saw("x", 1), saw("x", 1, 2)
	for name, c := range map[string]struct {
		l     []api.Txn
		order []int
		want  bool
	}{
		"nothing":                           {nil, nil, true},
		"an empty order":                    {[]api.Txn{}, []int{}, true},
		"a place that is none":              {nil, []int{0}, false},
		"the one":                           {[]api.Txn{at(0, 1, x1)}, []int{0}, true},
		"not the one":                       {[]api.Txn{at(0, 1, x1)}, nil, false},
		"twice":                             {[]api.Txn{at(0, 1)}, []int{0, 0}, false},
		"one in place of another":           {[]api.Txn{at(0, 1), at(0, 1)}, []int{1, 1}, false},
		"below 0":                           {[]api.Txn{at(0, 1)}, []int{-1}, false},
		"below 0, beside it":                {[]api.Txn{at(0, 1)}, []int{0, -1}, false},
		"too great":                         {[]api.Txn{at(0, 1)}, []int{0, 1}, false},
		"the least and greatest":            {[]api.Txn{at(0, 1)}, []int{math.MinInt, math.MaxInt}, false},
		"reads so":                          {[]api.Txn{at(0, 9, r1), at(0, 9, x1)}, []int{1, 0}, true},
		"reads otherwise":                   {[]api.Txn{at(0, 9, r1), at(0, 9, x1)}, []int{0, 1}, false},
		"one left out":                      {[]api.Txn{at(0, 9, r1), at(0, 9, x1), at(0, 9)}, []int{1, 0}, false},
		"in time":                           {[]api.Txn{at(0, 1), at(2, 3)}, []int{0, 1}, true},
		"not in time":                       {[]api.Txn{at(0, 1), at(2, 3)}, []int{1, 0}, false},
		"just at the same time":             {[]api.Txn{at(0, 2), at(2, 3)}, []int{1, 0}, true},
		"not in time, one between":          {[]api.Txn{at(0, 1), at(2, 3), at(0, 3)}, []int{1, 2, 0}, false},
		"not in time, one ahead of it":      {[]api.Txn{at(0, 1), at(2, 3), at(0, 3)}, []int{2, 1, 0}, false},
		"not in time, one behind it":        {[]api.Txn{at(0, 1), at(2, 3), at(0, 3)}, []int{1, 0, 2}, false},
		"the first end counts":              {[]api.Txn{at(0, 9), at(0, 4), at(0, 8), at(5, 9)}, []int{0, 3, 1, 2}, false},
		"the first end counts, last":        {[]api.Txn{at(0, 9), at(0, 4), at(0, 8), at(5, 9)}, []int{0, 3, 2, 1}, false},
		"no end":                            {[]api.Txn{at(0, -1), at(2, 3)}, []int{1, 0}, true},
		"the least end":                     {[]api.Txn{at(0, math.MinInt), at(2, 3)}, []int{1, 0}, true},
		"no end hides none":                 {[]api.Txn{at(0, -1), at(0, 1), at(2, 3)}, []int{2, 1, 0}, false},
		"no end hides none, turned":         {[]api.Txn{at(0, -1), at(0, 1), at(2, 3)}, []int{2, 0, 1}, false},
		"an end at 0":                       {[]api.Txn{at(0, 0), at(1, 1)}, []int{1, 0}, false},
		"greatest numbers":                  {[]api.Txn{at(math.MinInt, math.MaxInt-1), at(math.MaxInt, math.MinInt)}, []int{1, 0}, false},
		"turned by hand: not itself":        {[]api.Txn{at(5, 1)}, []int{0}, true},
		"two turned by hand":                {[]api.Txn{at(5, 1), at(5, 1)}, []int{0, 1}, false},
		"one turned by hand":                {[]api.Txn{at(5, 1), at(0, 9)}, []int{1, 0}, true},
		"unknown, done":                     {[]api.Txn{open(0, -1, x1), at(0, 1, r1)}, []int{0, 1}, true},
		"unknown, not done":                 {[]api.Txn{open(0, -1, x1), at(0, 1, rx)}, []int{1}, true},
		"unknown, done later":               {[]api.Txn{open(0, -1, x1), at(0, 1, rx)}, []int{1, 0}, true},
		"unknown, twice":                    {[]api.Txn{open(0, -1, x1), at(0, 1, saw("x", 1, 1))}, []int{0, 0, 1}, false},
		"unknown: what it reads":            {[]api.Txn{open(0, -1, x1, saw("x", 7), got("p", 7)), at(0, 1, r1)}, []int{0, 1}, true},
		"unknown alone":                     {[]api.Txn{open(0, -1, x1), open(0, 9, x2)}, []int{1, 0}, true},
		"unknown alone, not done":           {[]api.Txn{open(0, -1, x1), open(0, 9, x2)}, nil, true},
		"ended ahead of one unknown":        {[]api.Txn{at(0, 1, r1), open(2, -1, x1)}, []int{1, 0}, false},
		"ended ahead of one unknown, so":    {[]api.Txn{at(0, 1, rx), open(2, -1, x1)}, []int{0, 1}, true},
		"ended ahead of one not there":      {[]api.Txn{at(0, 1, rx), open(2, -1, x1)}, []int{0}, true},
		"at the time of one unknown":        {[]api.Txn{at(0, 2, r1), open(2, -1, x1)}, []int{1, 0}, true},
		"what ends one unknown is not it":   {[]api.Txn{open(0, 1, x1), at(2, 3, rx)}, []int{1, 0}, true},
		"two unknown":                       {[]api.Txn{open(0, 1, x1), open(2, 3, x2), at(0, 9, saw("x", 2, 1))}, []int{1, 0, 2}, true},
		"failed":                            {[]api.Txn{in(api.TxFail, 0, 1, x1)}, []int{0}, false},
		"failed, not there":                 {[]api.Txn{in(api.TxFail, 0, 1, x1)}, nil, true},
		"failed, and read":                  {[]api.Txn{in(api.TxFail, 0, 1, x1), at(2, 3, r1)}, []int{0, 1}, false},
		"states that are none":              {[]api.Txn{in(0, 0, 1), in(4, 0, 1), in(-1, 0, 1), in(math.MaxInt, 0, 1)}, nil, true},
		"a state that is none":              {[]api.Txn{in(0, 0, 1)}, []int{0}, false},
		"another one":                       {[]api.Txn{in(4, 0, 1)}, []int{0}, false},
		"more than a graph has nodes":       {slices.Repeat([]api.Txn{in(api.TxFail, 0, 1)}, api.MaxNodes+1), nil, true},
		"all is well":                       {[]api.Txn{at(0, 5, r12), open(1, -1, x2), at(2, 3, r1), at(0, 1, x1)}, []int{3, 2, 1, 0}, true},
		"all is well but for one read":      {[]api.Txn{at(0, 5, r12), open(1, -1, x2), at(2, 3, rx), at(0, 1, x1)}, []int{3, 2, 1, 0}, false},
		"two keys, two kinds":               {[]api.Txn{at(0, 1, app("x", 1), unset("x")), at(0, 1, set("x", 2), saw("x", 1))}, []int{0, 1}, true},
		"kinds that are none, no Has":       {[]api.Txn{at(0, 1, api.Op{Kind: 9, Key: "x", Value: 1}, api.Op{Kind: api.OpRead, Key: "x", List: []int{7}}), at(0, 1, rx)}, []int{0, 1}, true},
		"the order of numbers says nothing": {[]api.Txn{at(4, 5), at(2, 3), at(0, 1)}, []int{2, 1, 0}, true},
	} {
		if ok := Right(c.l, c.order); ok != c.want {
			t.Errorf("%s: %v", name, ok)
		}
	}
}

// P17.2: histories of which the answer is plain.
func TestSearch(t *testing.T) {
	for name, c := range map[string]struct {
		l    []api.Txn
		want int
	}{
		"nothing":                             {nil, api.AnswerYes},
		"an empty list":                       {[]api.Txn{}, api.AnswerYes},
		"failed ones alone":                   {[]api.Txn{in(api.TxFail, 0, 1, app("x", 1)), in(0, 0, 1), in(7, 0, 1)}, api.AnswerYes},
		"unknown ones alone":                  {[]api.Txn{open(0, -1, app("x", 1)), open(0, 1, saw("x", 9))}, api.AnswerYes},
		"a fork":                              {[]api.Txn{at(0, 2, app("x", 1), saw("x", 1)), at(1, 3, app("x", 2), saw("x", 2))}, api.AnswerNo},
		"G2":                                  {[]api.Txn{at(0, 9, app("x", 1), saw("y")), at(0, 9, app("y", 2), saw("x")), at(0, 9, saw("x", 1), saw("y", 2))}, api.AnswerNo},
		"one ahead of the other":              {[]api.Txn{at(0, 9, app("x", 1), saw("y")), at(0, 9, app("y", 2), saw("x", 1)), at(0, 9, saw("x", 1), saw("y", 2))}, api.AnswerYes},
		"G1a":                                 {[]api.Txn{in(api.TxFail, 0, 1, app("x", 1)), at(0, 1, saw("x", 1))}, api.AnswerNo},
		"a state that is none":                {[]api.Txn{in(0, 0, 1, app("x", 1)), at(0, 1, saw("x", 1))}, api.AnswerNo},
		"G-single":                            {[]api.Txn{at(0, 9, app("x", 1)), at(0, 9, saw("x", 1), app("x", 3)), at(0, 9, app("x", 2)), at(0, 9, saw("x", 1, 2, 3))}, api.AnswerNo},
		"too late":                            {[]api.Txn{at(0, 1, app("x", 1)), at(2, 3, saw("x")), at(4, 5, saw("x", 1))}, api.AnswerNo},
		"not too late":                        {[]api.Txn{at(0, 2, app("x", 1)), at(2, 3, saw("x")), at(4, 5, saw("x", 1))}, api.AnswerYes},
		"too early":                           {[]api.Txn{at(0, 1, saw("x", 1)), at(2, 3, app("x", 1))}, api.AnswerNo},
		"unknown, too early":                  {[]api.Txn{at(0, 1, saw("x", 1)), open(2, -1, app("x", 1))}, api.AnswerNo},
		"unknown, at the same time":           {[]api.Txn{at(0, 2, saw("x", 1)), open(2, -1, app("x", 1))}, api.AnswerYes},
		"unknown, done late":                  {[]api.Txn{open(0, 1, app("x", 1)), at(2, 3, saw("x")), at(4, 5, saw("x", 1))}, api.AnswerYes},
		"unknown, not done":                   {[]api.Txn{open(0, -1, app("x", 1)), at(2, 3, saw("x"))}, api.AnswerYes},
		"unknown, done and taken back":        {[]api.Txn{open(0, -1, app("x", 1)), at(2, 3, saw("x", 1)), at(4, 5, saw("x"))}, api.AnswerNo},
		"unknown, what it reads":              {[]api.Txn{open(0, -1, saw("x", 5), app("x", 1), got("p", 1)), at(2, 3, saw("x", 1))}, api.AnswerYes},
		"unknown, done once":                  {[]api.Txn{open(0, -1, app("x", 1)), at(2, 3, saw("x", 1, 1))}, api.AnswerNo},
		"two unknown, in their turn":          {[]api.Txn{open(0, -1, app("x", 1)), open(0, -1, app("x", 2)), at(2, 3, saw("x", 2)), at(4, 5, saw("x", 2, 1))}, api.AnswerYes},
		"unknown, all of it or none":          {[]api.Txn{open(0, -1, app("x", 1), app("y", 1)), at(2, 3, saw("x", 1), saw("y"))}, api.AnswerNo},
		"garbage":                             {[]api.Txn{at(0, 1, saw("x", 1))}, api.AnswerNo},
		"otherwise than it wrote":             {[]api.Txn{at(0, 1, app("x", 1), saw("x"))}, api.AnswerNo},
		"what it writes later":                {[]api.Txn{at(0, 1, saw("x", 1), app("x", 1))}, api.AnswerNo},
		"a register written twice alike":      {[]api.Txn{at(0, 9, set("p", 1)), at(0, 9, set("p", 1)), at(0, 9, got("p", 1), set("p", 2)), at(0, 9, got("p", 2)), at(0, 9, got("p", 2))}, api.AnswerYes},
		"a value that comes back":             {[]api.Txn{at(0, 1, set("p", 1)), at(2, 3, set("p", 2)), at(4, 9, got("p", 1)), at(4, 9, set("p", 1))}, api.AnswerYes},
		"a value that does not":               {[]api.Txn{at(0, 1, set("p", 1)), at(2, 3, set("p", 2)), at(4, 9, got("p", 1)), at(4, 9, set("p", 3))}, api.AnswerNo},
		"never written again":                 {[]api.Txn{at(0, 1, set("p", 0)), at(2, 3, unset("p"))}, api.AnswerNo},
		"not yet written":                     {[]api.Txn{at(0, 9, set("p", 0)), at(2, 3, unset("p")), at(4, 5, got("p", 0))}, api.AnswerYes},
		"nought is a value":                   {[]api.Txn{at(0, 1, got("p", 0))}, api.AnswerNo},
		"it writes what it got":               {[]api.Txn{at(0, 9, got("p", 1), set("p", 1)), at(0, 9, set("p", 1))}, api.AnswerYes},
		"it wrote what it gets":               {[]api.Txn{at(0, 1, set("p", 1)), at(2, 3, set("p", 2), got("p", 2)), at(4, 5, got("p", 2))}, api.AnswerYes},
		"a list and a register of one key":    {[]api.Txn{at(0, 9, set("x", 1), saw("x", 2)), at(0, 9, app("x", 2), unset("x"))}, api.AnswerYes},
		"a list read by its writer alone":     {[]api.Txn{at(0, 9, app("x", 1), saw("x", 2, 1)), at(0, 9, app("x", 2))}, api.AnswerYes},
		"no end":                              {[]api.Txn{at(0, -1, app("x", 1)), at(5, 6, saw("x"))}, api.AnswerYes},
		"ahead of itself, by hand":            {[]api.Txn{at(5, 1, app("x", 1), saw("x", 1))}, api.AnswerYes},
		"ahead of one another, by hand":       {[]api.Txn{at(5, 1), at(5, 1)}, api.AnswerNo},
		"round in time, by hand":              {[]api.Txn{at(5, 1), at(0, 9), at(5, 2)}, api.AnswerNo},
		"the greatest numbers":                {[]api.Txn{at(math.MaxInt, math.MaxInt, saw("x", math.MinInt)), at(math.MinInt, 0, app("x", math.MinInt))}, api.AnswerYes},
		"the greatest numbers, turned":        {[]api.Txn{at(math.MaxInt, math.MaxInt, app("x", math.MinInt)), at(math.MinInt, 0, saw("x", math.MinInt))}, api.AnswerNo},
		"reads without Has, kinds of nothing": {[]api.Txn{at(0, 1, api.Op{Kind: api.OpRead, Key: "x", List: []int{9}}, api.Op{Kind: api.OpGet, Key: "p", Value: 9}, api.Op{Kind: 5, Key: "x"}, api.Op{Kind: -1}), at(2, 3, saw("x"), unset("p"))}, api.AnswerYes},
		"no operations":                       {[]api.Txn{at(0, 1), at(2, 3), open(4, -1)}, api.AnswerYes},
		"strange keys":                        {[]api.Txn{at(0, 9, saw("", 1), saw("\xff\n")), at(0, 9, app("", 1)), at(0, 9, app("\xff\n", 1))}, api.AnswerYes},
	} {
		a, o, n := Search(c.l, api.MaxSteps)
		if a != c.want || a == api.AnswerYes && !Right(c.l, o) || a != api.AnswerYes && len(o) != 0 || n < len(o) {
			t.Errorf("%s: %d %v %d", name, a, o, n)
		}
	}
}

// P17.2: where no step is needed, none is taken, and the answer is not unknown.
func TestNoStepNeeded(t *testing.T) {
	for _, l := range [][]api.Txn{nil, {}, {in(api.TxFail, 0, 1, app("x", 1))}, {open(0, -1, app("x", 1))}, {in(99, 0, 0), open(3, 1, saw("x", 3))}} {
		for _, steps := range []int{math.MinInt, -1, 0, 1, math.MaxInt} {
			if a, o, n := Search(l, steps); a != api.AnswerYes || len(o) != 0 || n != 0 {
				t.Error(l, steps, a, o, n)
			}
		}
	}
}

// P17.2: as many steps as were asked for are taken, not more; below 0 is 0.
func TestSteps(t *testing.T) {
	l := []api.Txn{at(0, 9, saw("x", 1)), at(0, 9, app("x", 1))}
	for _, steps := range []int{math.MinInt, -5, -1, 0, 1, 2} {
		if a, o, n := Search(l, steps); a != api.AnswerUnknown || len(o) != 0 || n != max(steps, 0) {
			t.Error(steps, a, o, n)
		}
	}
	for _, steps := range []int{3, 4, api.MaxSteps, api.MaxSteps + 1, math.MaxInt} {
		if a, o, n := Search(l, steps); a != api.AnswerYes || !slices.Equal(o, []int{1, 0}) || n != 3 {
			t.Error(steps, a, o, n)
		}
	}
}

// subsets is a history of which a search needs to go through all subsets of those of unknown end: each of them writes a register of its own, and one reads them all, and one that nobody wrote.
func subsets(many int) []api.Txn {
	l := make([]api.Txn, many+1)
	for n := range many {
		key := string(rune('a' + n))
		l[n] = open(0, -1, set(key, 1))
		l[many].Ops = append(l[many].Ops, got(key, 1))
	}
	l[many].State, l[many].Ops = api.TxOk, append(l[many].Ops, got("none", 1))
	return l
}

// P17.2: above MaxSteps is MaxSteps; subsets that were led to once are not gone on from again.
func TestMaxSteps(t *testing.T) {
	if a, o, n := Search(subsets(10), api.MaxSteps); a != api.AnswerNo || len(o) != 0 || n > 11*1<<10 {
		t.Error(a, o, n)
	}
	for _, steps := range []int{api.MaxSteps, math.MaxInt} {
		if a, o, n := Search(subsets(25), steps); a != api.AnswerUnknown || len(o) != 0 || n != api.MaxSteps {
			t.Error(steps, a, o, n)
		}
	}
}

// P17.2: MaxNodes transactions may be, whatever they are, and not one more.
func TestMaxNodes(t *testing.T) {
	for _, x := range []api.Txn{at(0, 9, app("x", 1)), in(api.TxFail, 0, 9), open(0, 9, app("x", 1)), {}} {
		l := slices.Repeat([]api.Txn{x}, api.MaxNodes)
		if a, o, _ := Search(l, math.MaxInt); a != api.AnswerYes || !Right(l, o) {
			t.Error(x, a, o)
		}
		for _, steps := range []int{math.MinInt, 0, 1, math.MaxInt} {
			if a, o, n := Search(append(l, x), steps); a != api.AnswerUnknown || len(o) != 0 || n != 0 {
				t.Error(x, steps, a, o, n)
			}
		}
	}
}

// chain is a history, one transaction behind the other in time, of which each reads what all ahead of it appended; they are numbered from the last one on.
func chain(many int) []api.Txn {
	l := make([]api.Txn, many)
	var list []int
	for n := range many {
		l[many-1-n] = at(2*n, 2*n+1, saw("x", list...), app("x", n))
		list = append(slices.Clone(list), n)
	}
	return l
}

// Ends: what real time, or a list that only grows, leaves but one way for, takes hardly a step too many.
func TestLong(t *testing.T) {
	l := chain(api.MaxNodes)
	if a, o, n := Search(l, api.MaxNodes); a != api.AnswerYes || n != api.MaxNodes || !Right(l, o) {
		t.Error(a, n)
	}
	l[100].Ops[0].List[7]++
	if a, o, n := Search(l, api.MaxSteps); a != api.AnswerNo || len(o) != 0 || n > api.MaxNodes {
		t.Error(a, n)
	}
	l = chain(api.MaxNodes)
	for n := range l {
		l[n].From, l[n].To = 0, n
	}
	if a, o, n := Search(l, api.MaxSteps); a != api.AnswerYes || !Right(l, o) || n > api.MaxNodes*api.MaxNodes {
		t.Error(a, n)
	}
	crowd := slices.Repeat([]api.Txn{at(0, 9, app("x", 1), set("p", 1))}, api.MaxNodes-1)
	crowd = append(crowd, at(0, 9, got("q", 1)))
	if a, o, n := Search(crowd, api.MaxSteps); a != api.AnswerNo || len(o) != 0 || n > 2*api.MaxNodes {
		t.Error(a, n)
	}
}

// Ends: a crowd at one time, beside one that reads what nobody wrote, is not gone through in all orders where that is of no use.
func TestCrowds(t *testing.T) {
	const many = 20
	for name, c := range map[string]struct {
		one  func(n int) api.Txn
		more []api.Txn
	}{
		"nobody reads what they write": {func(n int) api.Txn { return at(0, 9, app("x", n), set("p", n)) }, nil},
		"each reads its own":           {func(n int) api.Txn { return at(0, 9, app(string(rune('a'+n)), 1), saw(string(rune('a'+n)), 1)) }, nil},
		"they read alone":              {func(n int) api.Txn { return at(0, 9, saw("x"), unset("p")) }, nil},
		"unknown, and nobody reads":    {func(n int) api.Txn { return open(0, -1, app("x", n), set("p", n), saw("y", 1)) }, nil},
		"unknown, and none of them":    {func(n int) api.Txn { return open(0, -1, app("x", n), saw("x")) }, []api.Txn{at(0, 9, saw("x"))}},
		"a list that was too long":     {func(n int) api.Txn { return at(0, 9, app("x", n)) }, []api.Txn{at(0, 9, saw("x"))}},
		"a list that went elsewhere":   {func(n int) api.Txn { return at(0, 9, app("x", n)) }, []api.Txn{at(0, 9, saw("x", 3, 5, 4))}},
		"a register that has a value":  {func(n int) api.Txn { return at(0, 9, set("p", 0)) }, []api.Txn{at(0, 9, unset("p"))}},
		"a register that was another":  {func(n int) api.Txn { return at(2, 9, set("p", 2)) }, []api.Txn{at(2, 9, got("p", 1)), at(0, 1, set("p", 1))}},
	} {
		var l []api.Txn
		for n := range many {
			l = append(l, c.one(n))
		}
		l = append(l, c.more...)
		if a, o, n := Search(l, 10*many); a != api.AnswerYes || !Right(l, o) {
			t.Error(name, a, o, n)
		}
		l = append(l, at(0, 9, got("none", 1)))
		if a, o, n := Search(l, 10*many); a != api.AnswerNo || len(o) != 0 {
			t.Error(name, a, o, n)
		}
	}
}

// P17.2: what is of unknown end, and written for nobody, takes no step.
func TestOfNoUse(t *testing.T) {
	l := []api.Txn{open(0, -1, app("x", 1)), open(0, -1, saw("y", 1)), open(0, 1, set("y", 1)), open(0, 1), at(0, 9, saw("y"))}
	if a, o, n := Search(l, 1); a != api.AnswerYes || !slices.Equal(o, []int{4}) || n != 1 {
		t.Error(a, o, n)
	}
}

// P17.2: what a thing is that nobody reads any more does not tell two beginnings apart: here any one of four may be the last to write a register, and only behind that come those of unknown end.
func TestReadNoMore(t *testing.T) {
	l := subsets(8)
	for n := range l {
		l[n].From, l[n].To = 5, -1
	}
	for n := range 4 {
		l = append(l, at(0, 4, set("p", 1)), at(0, 4, got("p", 1), set("p", 10+n)))
	}
	const most = 9 * 1 << 8 * 2
	if a, o, n := Search(l, most); a != api.AnswerNo || len(o) != 0 {
		t.Error(a, o, n)
	}
}

// A place that was led to is known the second time, as long as there is room to keep it in mind.
func TestKnown(t *testing.T) {
	w := start([]api.Txn{at(0, 1, saw("x"))})
	w.room = 0
	for range 2 {
		if w.isKnown() || len(w.known) != 0 {
			t.Fatal("no room")
		}
	}
	w.room = 2
	for _, want := range []bool{false, true, true} {
		if w.isKnown() != want || w.room != 0 {
			t.Fatal(want, w.room)
		}
	}
}

// Numbers are told apart, whatever digits they have.
func TestDigits(t *testing.T) {
	some := []int{0, 1, 127, 128, 129, 255, 256, 128 * 128, 128*128 - 1, 128*128 + 128, 1 << 40, math.MaxInt}
	seen := map[string][2]int{}
	for _, a := range some {
		for _, b := range some {
			text := digits([]int{a, b})
			if old, twice := seen[text]; twice {
				t.Error(a, b, old)
			}
			seen[text] = [2]int{a, b}
		}
	}
}

// Ends: Right of long lists, with many that end late.
func TestRightOfLong(t *testing.T) {
	const many = 200000
	l, order := make([]api.Txn, many), make([]int, many)
	for n := range l {
		l[n], order[n] = at(n, many+n), many-1-n
	}
	if !Right(l, order) {
		t.Error("no pair is bound")
	}
	l[0].To = many - 2
	if Right(l, order) {
		t.Error("the last one is behind the first one")
	}
}

// Memory: what is handed in is as it was, the room behind it, too; an answer is new.
func TestMemory(t *testing.T) {
	make1 := func() []api.Txn {
		list := []int{1, 2, 77}
		l := []api.Txn{
			at(0, 9, saw("x", list[:2]...), app("x", 3), set("p", 5)), open(0, -1, app("x", 2), saw("x", 7)), at(0, 9, app("x", 1)),
			at(0, 9, got("p", 5), saw("x", 1, 2, 3)), in(api.TxFail, 0, 9, app("x", 9)), at(50, 60, saw("x", 66)),
		}
		for n := range l {
			l[n].Ops = append(l[n].Ops, app("room", 1))[:len(l[n].Ops)]
		}
		return l
	}
	whole := make1()
	l := whole[:5]
	orders := [2][]int{{2, 1, 0, 3, 99}, {2, 1, 0, 3, 99}}
	if !Right(l, orders[0][:4]) || !slices.Equal(orders[0], orders[1]) {
		t.Fatal(orders[0])
	}
	a, o, n := Search(l, api.MaxSteps)
	was := slices.Clone(o)
	if a != api.AnswerYes || !Right(l, o) {
		t.Fatal(a, o)
	}
	if _, o, m := Search(l, api.MaxSteps); m != n || !slices.Equal(o, was) {
		t.Fatal(o, m)
	} else {
		for i := range o[:cap(o)] {
			o[:cap(o)][i] = -7
		}
	}
	if _, again, m := Search(l, api.MaxSteps); m != n || !slices.Equal(again, was) || !slices.Equal(o, was) {
		t.Fatal(o, again, m)
	}
	same := make1()
	for n := range whole {
		if !reflect.DeepEqual(whole[n].Ops[:cap(whole[n].Ops)], same[n].Ops[:cap(same[n].Ops)]) {
			t.Fatal("the room behind is changed", n)
		}
	}
	if !reflect.DeepEqual(whole, same) || !slices.Equal(whole[0].Ops[0].List[:3], []int{1, 2, 77}) {
		t.Fatal("what was handed in is changed", whole)
	}
}
