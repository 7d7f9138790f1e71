package show_test

import (
	"testing"

	"cabotage/api"
	"cabotage/show"
)

func val(k api.SolKind, n int) api.SolVal { return api.SolVal{Kind: k, N: n} }

func TestVals(t *testing.T) {
	l := []api.SolVal{val(api.SolInt, -7), val(api.SolFree, 1), val(api.SolChan, 12), val(api.SolPlace, 0), {}, val(5, 2), val(-1, -1)}
	if s := show.Vals(l); s != "(-7 f1 c12 p0 {0 0} {5 2} {-1 -1})" {
		t.Error(s)
	}
	if s := show.Vals(nil); s != "()" {
		t.Error(s)
	}
}

func TestSol(t *testing.T) {
	a, b := []api.SolVal{val(api.SolInt, 1)}, []api.SolVal{val(api.SolFree, 2), val(api.SolChan, 0)}
	s := api.Sol{
		Spots:  []api.SolSpot{{In: -1}, {In: 0, Dead: true}},
		Groups: []api.SolGroup{{Def: 3, At: 1, Env: a}, {}},
		Chans:  []api.SolQ{{Group: 1, Index: 2, At: 3, Queue: []api.SolMsg{{Vals: a}, {}, {Vals: b}}}, {}},
		Waits:  []api.SolWait{{At: 4, Node: 5, Env: b}, {}},
	}
	if text := show.Sol(s); text != "-1 0x | 3@1(1) 0@0() | 1.2@3[(1)()(f2 c0)] 0.0@0[] | 5@4(f2 c0) 0@0()" {
		t.Error(text)
	}
	if text := show.Sol(api.Sol{}); text != " |  |  | " {
		t.Error(text)
	}
	if text := show.Spots(s.Spots); text != "-1 0x" {
		t.Error(text)
	}
}

func TestStep(t *testing.T) {
	for want, x := range map[string]api.SolStep{
		"0": {}, "3": {Wait: 3}, "0.0 []": {Wait: -1}, "1.2 [3 4]": {Wait: -1, Group: 1, Rule: 2, Picks: []int{3, 4}},
		"0?1.0 []": {Group: 1}, "2?0.1 []": {Wait: 2, Rule: 1}, "0?0.0 [0]": {Picks: []int{0}}, "-2?0.0 []": {Wait: -2},
	} {
		if s := show.Step(x); s != want {
			t.Error(s, want)
		}
	}
}

func TestEvents(t *testing.T) {
	l := []api.SolVal{val(api.SolInt, 1), val(api.SolPlace, 2)}
	for _, c := range []struct {
		want string
		x    api.SolEvent
	}{
		{"took@1 2.3(1 p2)", api.SolEvent{Deed: api.SolTook, At: 1, N: 2, M: 3, Vals: l}},
		{"went@1 2", api.SolEvent{Deed: api.SolWent, At: 1, N: 2}},
		{"died@1", api.SolEvent{Deed: api.SolDied, At: 1}},
		{"told@1 2", api.SolEvent{Deed: api.SolTold, At: 1, N: 2}},
		{"said@1 2(1 p2)", api.SolEvent{Deed: api.SolSaid, At: 1, N: 2, Vals: l}},
		// What a kind has no meaning for is seen.
		{"2 1 2 3()", api.SolEvent{Deed: api.SolWent, At: 1, N: 2, M: 3}}, {"2 1 2 0(1 p2)", api.SolEvent{Deed: api.SolWent, At: 1, N: 2, Vals: l}},
		{"3 1 2 0()", api.SolEvent{Deed: api.SolDied, At: 1, N: 2}}, {"3 1 0 2()", api.SolEvent{Deed: api.SolDied, At: 1, M: 2}}, {"3 1 0 0(1 p2)", api.SolEvent{Deed: api.SolDied, At: 1, Vals: l}},
		{"4 1 2 3()", api.SolEvent{Deed: api.SolTold, At: 1, N: 2, M: 3}}, {"4 1 2 0(1 p2)", api.SolEvent{Deed: api.SolTold, At: 1, N: 2, Vals: l}},
		{"5 1 2 3(1 p2)", api.SolEvent{Deed: api.SolSaid, At: 1, N: 2, M: 3, Vals: l}},
		{"0 0 0 0()", api.SolEvent{}}, {"0 1 2 3()", api.SolEvent{At: 1, N: 2, M: 3}}, {"6 1 2 3()", api.SolEvent{Deed: 6, At: 1, N: 2, M: 3}},
	} {
		if s := show.Events([]api.SolEvent{c.x}); s != c.want {
			t.Error(s, c.want)
		}
	}
	if s := show.Events(nil); s != "" {
		t.Error(s)
	}
	if s := show.Events([]api.SolEvent{{Deed: api.SolDied}, {Deed: api.SolTold, N: 1}}); s != "died@0; told@0 1" {
		t.Error(s)
	}
}
