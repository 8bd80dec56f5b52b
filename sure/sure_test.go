package sure

import (
	"math"
	"testing"

	"assayer/api"
)

func TestIs(t *testing.T) {
	l := []api.Txn{{State: api.TxOk}, {State: api.TxOk}, {State: api.TxInfo}, {State: api.TxFail}, {State: 9}, {}}
	for name, c := range map[string]struct {
		cycle []api.Why
		want  bool
	}{
		"none":             {nil, true},
		"ok":               {[]api.Why{{From: 0, To: 1}, {From: 1, To: 0}}, true},
		"a condition":      {[]api.Why{{From: 0, To: 1}, {From: 1, To: 0, Cond: true}}, false},
		"unknown, from":    {[]api.Why{{From: 0, To: 1}, {From: 2, To: 0}}, false},
		"unknown, to":      {[]api.Why{{From: 0, To: 2}, {From: 1, To: 0}}, false},
		"failed":           {[]api.Why{{From: 3, To: 1}}, false},
		"no state":         {[]api.Why{{From: 1, To: 4}}, false},
		"no state, zero":   {[]api.Why{{From: 1, To: 5}}, false},
		"beyond":           {[]api.Why{{From: 1, To: 6}}, false},
		"below":            {[]api.Why{{From: -1, To: 1}}, false},
		"as far as can be": {[]api.Why{{From: math.MinInt, To: math.MaxInt}}, false},
	} {
		if Is(l, c.cycle) != c.want {
			t.Error(name)
		}
	}
	if Is(nil, []api.Why{{}}) || !Is(nil, nil) {
		t.Error("of no transactions")
	}
}
