package sol_test

import (
	"fmt"
	"math"
	"testing"

	"cabotage/api"
	"cabotage/show"
	"cabotage/sol"
)

// P6.3

func TestSteps(t *testing.T) {
	for _, c := range []struct {
		source string
		picks  []int // a run ahead
		want   string
	}{
		{"0", nil, ""},
		{"stop", nil, "0"},
		{"stop | stop", nil, "0; 1"},
		{"stop | stop", []int{0}, ""}, // both were in the place that died
		{example, nil, "0; 0.0 [0 0]; 0.0 [1 0]"},
		{example, []int{0}, "0; 0.0 [0 0]; 0.0 [1 0]"}, // now it is the TermWatch that goes on
		{example, []int{1}, "0"},
		// Free names, integers and channels are nowhere to go to, or to be told of.
		{"(go a; 0) | watch a; 0", nil, ""},
		{"def x(a) = 0 and place p { in (go x; 0) | watch x; 0 } in 0", nil, ""},
		{"def x(a) = go a; 0 and y(a) = watch a; 0 and place p { in x(1) | y(2) } in 0", []int{0, 0}, ""},
		// A place goes into others that live and are not within it; the place 0 stays.
		{"def place p { place q { in 0 } in (go p; 0) | (go q; 0) | go r; 0 } and place r { in (go p; 0) | go q; 0 } in (go p; 0) | go r; 0", nil, "2; 3; 4"},
		{"def place p { place q { in (go p; 0) | (go q; 0) | go r; 0 } in 0 } and place r { in 0 } in 0", nil, "0; 2"},
		{"def place p { in go q; 0 } and place q { in stop } in 0", nil, "0; 1"},
		{"def place p { in go q; 0 } and place q { in stop } in 0", []int{1}, ""},
		{"def place p { in go q; 0 } and place q { place r { in stop } in 0 } in 0", []int{1}, "0"},
		{"def place p { in go r; 0 } and place q { place r { in 0 } in stop } in 0", []int{1}, ""},
		// Only the dead are told of.
		{"def place p { place q { in stop } in 0 } in (watch p; 0) | watch q; 0", nil, "0"},
		{"def place p { place q { in stop } in 0 } in (watch p; 0) | watch q; 0", []int{0}, "1"},
		{"def place p { place q { in 0 } in stop } in (watch p; 0) | watch q; 0", []int{0}, "0; 1"},
		// Rules: by groups, by rules, by messages, of which the last ones change fastest.
		{"def x() & y() = 0 in x() | x()", nil, ""},
		{"def x() & y() = 0 and y() = 0 in x() | y() | y()", nil, "0.0 [0 0]; 0.0 [0 1]; 0.1 [0]; 0.1 [1]"},
		{"def y() & x() = 0 in x() | y() | y()", nil, "0.0 [0 0]; 0.0 [1 0]"},
		{"def x() & y() & z() = 0 in (x() | x() | y()) | z() | z()", nil, "0.0 [0 0 0]; 0.0 [0 0 1]; 0.0 [1 0 0]; 0.0 [1 0 1]"},
		{"def x() = def y() = 0 and z() & y() = 0 in z() | y() in x() | x() | stop", []int{1}, "0; 0.0 [0]; 1.0 [0]; 1.1 [0 0]"},
		{"def x() = def y() = 0 and z() & y() = 0 in z() | y() in x() | x() | stop", []int{1, 1}, "0; 1.0 [0]; 1.1 [0 0]; 2.0 [0]; 2.1 [0 0]"},
		// Rules in a place: they react as long as it lives.
		{"def x() = 0 and place p { y() & z() = 0 in stop } in y() | x() | z()", nil, "0; 0.0 [0]; 0.1 [0 0]"},
		{"def x() = 0 and place p { y() & z() = 0 in stop } in y() | x() | z()", []int{0}, "0.0 [0]"},
		// Processes that wait come first, whatever they wait for.
		{"def x() = stop and place p { in go q; stop } and place q { in stop } in x() | x()", []int{2}, "0; 1; 2; 0.0 [0]"},
	} {
		p := bind(t, c.source)
		if got := show.All(steps(t, p, after(t, p, c.picks...)), "; ", show.Step); got != c.want {
			t.Errorf("%s after %v: %s", c.source, c.picks, got)
		}
	}
}

// crowded is a solution with as many messages as can be, for a rule that takes three.
func crowded(t *testing.T) (api.ScopeProg, api.Sol) {
	t.Helper()
	p := bind(t, "def x() & y() & z() = 0 and y() & x() = 0 in 0")
	s := first(t, p)
	for i := range s.Chans {
		s.Chans[i].Queue = make([]api.SolMsg, 12)
	}
	return p, s
}

func TestManySteps(t *testing.T) {
	p, s := crowded(t)
	if n, e := sol.Count(p, s); n != 12*12*12+12*12 || e != api.OK {
		t.Error(n, e)
	}
	for n, want := range map[int]string{0: "0.0 [0 0 0]", 11: "0.0 [0 0 11]", 12: "0.0 [0 1 0]", 143: "0.0 [0 11 11]", 144: "0.0 [1 0 0]", 1727: "0.0 [11 11 11]", 1728: "0.1 [0 0]", 1728 + 13: "0.1 [1 1]", 1871: "0.1 [11 11]"} {
		if x, e := sol.Nth(p, s, n); e != api.OK || show.Step(x) != want {
			t.Error(n, show.Step(x), e)
		}
	}
	// As many steps as a solution can be made to have.
	p = api.ScopeProg{Nodes: []api.ScopeNode{node(api.TermDef, 0, 1), node(api.TermNil, 0)}, Defs: []api.ScopeDef{{Chans: make([]api.ScopeChan, 3)}}}
	for i := range api.ScopeParts {
		p.Defs[0].Rules = append(p.Defs[0].Rules, api.ScopeRule{Joins: []int{i % 3, (i + 1) % 3, (i + 2) % 3}, Node: len(p.Nodes)})
		p.Nodes = append(p.Nodes, node(api.TermNil, 0))
	}
	s = api.Sol{Spots: []api.SolSpot{{In: -1}}}
	for g := range 20 {
		s.Groups = append(s.Groups, api.SolGroup{Env: []api.SolVal{{Kind: api.SolChan, N: 3 * g}, {Kind: api.SolChan, N: 3*g + 1}, {Kind: api.SolChan, N: 3*g + 2}}})
		for i := range 3 {
			s.Chans = append(s.Chans, api.SolQ{Group: g, Index: i, Queue: make([]api.SolMsg, 12)})
		}
	}
	if n, e := sol.Count(p, s); n != 20*30*1728 || e != api.OK {
		t.Error(n, e)
	}
	if x, e := sol.Nth(p, s, 20*30*1728-2); e != api.OK || show.Step(x) != "19.29 [11 11 10]" {
		t.Error(show.Step(x), e)
	}
	picks := make([]int, api.SolTurns)
	for i := range picks {
		picks[i] = math.MaxInt - i
	}
	if u, l, e := sol.Run(p, s, picks); e != api.OK || len(l) != 200 {
		t.Error(show.Sol(u), len(l), e)
	}
}

func TestNoStep(t *testing.T) {
	crowd, all := crowded(t)
	p, s := richly(t)
	for _, c := range []struct {
		p api.ScopeProg
		s api.Sol
		n int
	}{
		{p, s, -1}, {p, s, math.MinInt}, {p, s, len(steps(t, p, s))}, {p, s, math.MaxInt}, {crowd, all, -1}, {crowd, all, 1872}, {crowd, all, math.MaxInt}, {bind(t, "0"), first(t, bind(t, "0")), 0},
	} {
		if x, e := sol.Nth(c.p, c.s, c.n); e != api.ErrNone || show.Step(x) != "0" {
			t.Error(c.n, show.Step(x), e)
		}
	}
}

func TestStepsErrors(t *testing.T) {
	for _, c := range badly() {
		p, s := richly(t)
		c.do(&s)
		if n, e := sol.Count(p, s); n != 0 || e != api.ErrArg {
			t.Error(c.what, n, e)
		}
		for _, n := range []int{0, -1, 1000} {
			if x, e := sol.Nth(p, s, n); show.Step(x) != "0" || e != api.ErrArg {
				t.Error(c.what, show.Step(x), e)
			}
		}
	}
	p, s := richly(t)
	p.Main = -1
	if n, e := sol.Count(p, s); n != 0 || e != api.ErrArg {
		t.Error(n, e)
	}
	if x, e := sol.Nth(p, s, 0); show.Step(x) != "0" || e != api.ErrArg {
		t.Error(show.Step(x), e)
	}
}

func TestStepsByChance(t *testing.T) {
	seen := map[string]int{}
	formed(t, 4, 400, func(m *maker, p api.ScopeProg, s api.Sol) {
		got, want := steps(t, p, s), newPlain(p).steps(s)
		if show.All(got, " ", show.Step) != show.All(want, " ", show.Step) {
			t.Fatal(source(p), show.Sol(s), show.All(got, " ", show.Step), show.All(want, " ", show.Step))
		}
		all := map[string]bool{}
		for _, x := range got {
			if all[show.Step(x)] {
				t.Fatal(source(p), show.Sol(s), show.Step(x), "is twice")
			}
			all[show.Step(x)] = true
			switch {
			case x.Wait < 0:
				seen[fmt.Sprint(len(x.Picks))]++
			default:
				seen[fmt.Sprint("op ", int(p.Nodes[s.Waits[x.Wait].Node].Op))]++
			}
		}
	})
	for _, what := range []string{"1", "2", "3", "op 6", "op 7", "op 8"} {
		if seen[what] < 40 {
			t.Error(what, seen)
		}
	}
}
