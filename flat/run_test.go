package flat_test

import (
	"math"
	"slices"
	"testing"

	"cabotage/api"
	"cabotage/flat"
	"cabotage/sample"
	"cabotage/show"
	"cabotage/sol"
)

// P7.4

func TestFirst(t *testing.T) {
	for _, c := range []struct{ source, sol, events string }{
		{"0", "-1 |  |  | ", ""}, {"stop", "-1 |  |  | 0@0()", ""},
		{"out(1, 2 + 3) | out() | a(out)", "-1 |  |  | ", "said@0 1(1 5); said@0 1(); said@0 0(f1)"},
		{"(go a; b()) | watch b; a()", "-1 |  |  | 1@0(f0 f1) 3@0(f0 f1)", ""},
		{"(go a; 0) | watch b; (b() | c())", "-1 |  |  | 1@0(f0) 3@0(f1 f2)", ""},
		{"(if 1 then a() else b()) | (if 0 then a() else b()) | (if ~1 then a() else b())", "-1 |  |  | ", "said@0 0(); said@0 1(); said@0 0()"},
		{"(if a then a() else b()) | if a < 1 then c() else d()", "-1 |  |  | ", "said@0 1(); said@0 2()"},
		{"def x(a) = b(a) in x(1) | x() | x(1, 2) | x(c) | x(x) | x(x + 1)", "-1 | 0@0(f0 c0) | 0.0@0[(1)(f1)(c0)(1)] | ", ""},
		{
			"def place p { z() = b() and place q { w() = c() in out(1) | watch p; q() } in out(2) } and x() = 0 and place r { in out(3) } in out(4)",
			"-1 0 1 0 | 0@0(f0 f1 f2 c0 c1 c2 p1 p2 p3) | 0.0@0[] 0.1@1[] 0.2@2[] | 7@2(p1 p2)",
			"said@1 2(2); said@2 2(1); said@3 2(3); said@0 2(4)",
		},
		// The Kid of a TermDef has what its rules and places have not.
		{"def x() = 0 and place p { in def y() = 0 and place q { in x() | y() } in y() } in def z(a) = 0 in z(p)", "-1 0 1 | 0@0(c0 p1) 1@1(c0 c1 p2) 2@0(c2) | 0.0@0[()] 1.0@1[()()] 2.0@0[(p1)] | ", ""},
	} {
		f := flatOf(t, bind(t, c.source))
		s, l, e := flat.First(f)
		if e != api.OK || show.Sol(s) != c.sol || show.Events(l) != c.events {
			t.Errorf("%s:\n%s\n%s %d", c.source, show.Sol(s), show.Events(l), e)
		}
	}
}

func TestDo(t *testing.T) {
	for _, c := range []struct {
		source string
		picks  []int // a run ahead
		step   api.SolStep
		sol    string // the flat solution behind it
		events string
	}{
		{"def x(a) & y() = out(a) in x(1) | x(2) | y() | watch b; 0", nil, api.SolStep{Wait: -1, Picks: []int{1, 0}}, "-1 | 0@0(f1 c0 c1) | 0.0@0[(1)] 0.1@0[] | 8@0(f0)", "took@0 0.0(2); said@0 1(2)"},
		{"def x(a, b) & y(c) = 0 and y(c) & x(a, b) = out(a, b, c) in x(1, 2) | x(3, 4) | y(5) | y(6)", nil, api.SolStep{Wait: -1, Rule: 1, Picks: []int{1, 0}}, "-1 | 0@0(f0 c0 c1) | 0.0@0[(3 4)] 0.1@0[(5)] | ", "took@0 0.1(6 1 2); said@0 0(1 2 6)"},
		{"def x(a) = def y(b) = out(b) in y(a) in x(1) | x(2)", []int{0, 0}, api.SolStep{Wait: -1, Group: 2, Picks: []int{0}}, "-1 | 0@0(f0 c0) 1@0(f0 c1) 1@0(f0 c2) | 0.0@0[] 1.0@0[(1)] 2.0@0[] | ", "took@0 2.0(2); said@0 0(2)"},
		{ // a place goes, and what it did not take is not asked for
			"def place p { x(a) = b(a) in (go q; x(1) | out(p)) | stop } and place q { in 0 } in x(2)", nil, api.SolStep{},
			"-1 2 0 | 0@0(f0 f1 c0 p1 p2) | 0.0@1[(2)(1)] | 7@1()", "went@1 2; said@1 1(p1)",
		},
		{"def place p { x() = 0 and place q { in stop } in stop | x() } in watch p; out(q, c)", []int{0}, api.SolStep{}, "-1 0x 1x | 0@0(c0 p1 p2) | 0.0@1[] | ", "told@0 1; said@0 1(p2 f0)"},
		{"def place p { x() = 0 and place q { in stop } in stop | x() } in watch p; out(q, c)", nil, api.SolStep{}, "-1 0x 1x | 0@0(c0 p1 p2) | 0.0@1[] | 6@0(f0 f1 p1 p2)", "died@1"},
		{"def place p { in stop } in go p; out(p, c)", nil, api.SolStep{Wait: 1}, "", ""},
		{"def place p { in stop } in watch p; out(p, c)", []int{0}, api.SolStep{}, "-1 0x | 0@0(p1) |  | ", "told@0 1; said@0 1(p1 f0)"},
	} {
		f := flatOf(t, bind(t, c.source))
		s := after(t, f, c.picks...)
		u, l, e := flat.Do(f, s, c.step)
		if c.sol == "" && (e != api.ErrNone || !nothing(u, l)) || c.sol != "" && (e != api.OK || show.Sol(u) != c.sol || show.Events(l) != c.events) {
			t.Errorf("%s:\n%s\n%s %d", c.source, show.Sol(u), show.Events(l), e)
		}
	}
}

func TestSteps(t *testing.T) {
	f, s := richly(t)
	n, e := flat.Count(f, s)
	if n != 3 || e != api.OK {
		t.Error(n, e)
	}
	for i, want := range []string{"2", "0.1 [0]", "2.0 [0 0]"} {
		if x, e := flat.Nth(f, s, i); show.Step(x) != want || e != api.OK {
			t.Error(i, show.Step(x), e)
		}
	}
	for _, i := range []int{-1, 3, math.MaxInt, math.MinInt} {
		if x, e := flat.Nth(f, s, i); e != api.ErrNone || show.Step(x) != "0" {
			t.Error(i, show.Step(x), e)
		}
	}
	for i, x := range []api.SolStep{
		{Wait: 0}, {Wait: 1}, {Wait: 3}, {Wait: -2}, {Wait: math.MinInt}, {Wait: 2, Group: 1}, {Wait: 2, Rule: 1}, {Wait: 2, Picks: []int{0}},
		{Wait: -1}, {Wait: -1, Picks: []int{0}}, {Wait: -1, Rule: 1}, {Wait: -1, Rule: 1, Picks: []int{1}}, {Wait: -1, Rule: 1, Picks: []int{-1}}, {Wait: -1, Rule: 2, Picks: []int{0}}, {Wait: -1, Group: 1, Picks: []int{0}}, {Wait: -1, Group: 3, Picks: []int{0}}, {Wait: -1, Group: 2, Picks: []int{0}}, {Wait: -1, Group: 2, Picks: []int{0, 0, 0}}, {Wait: -1, Group: -1, Picks: []int{0}},
	} {
		if u, l, e := flat.Do(f, s, x); e != api.ErrNone || !nothing(u, l) {
			t.Error(i, show.Sol(u), e)
		}
	}
}

func TestRun(t *testing.T) {
	f := flatOf(t, bind(t, example))
	s := first(t, f)
	for _, c := range []struct {
		picks       []int
		sol, events string
	}{
		{nil, show.Sol(s), ""},
		{[]int{0}, "-1 0x | 0@0(f1 c0 c1 p1) | 0.0@0[] 0.1@0[] | 3@0(f0 c0 p1)", "died@1"},
		{[]int{-5, 7, 7}, "-1 0x | 0@0(f1 c0 c1 p1) | 0.0@0[] 0.1@0[] | 3@0(f0 c0 p1)", "died@1"}, // nobody goes into a dead place, nor the place 0
	} {
		if u, l, e := flat.Run(f, s, c.picks); e != api.OK || show.Sol(u) != c.sol || show.Events(l) != c.events {
			t.Error(c.picks, show.Sol(u), show.Events(l), e)
		}
	}
	if _, _, e := flat.Run(f, s, every(0, 200)); e != api.OK {
		t.Error(e)
	}
	if u, l, e := flat.Run(f, s, every(0, 201)); e != api.ErrLong || !nothing(u, l) {
		t.Error(show.Sol(u), l, e)
	}
	// Numbers count from the front where there are fewer steps.
	f = flatOf(t, bind(t, "def x(a) = out(a) in x(1) | x(2) | x(3)"))
	if u, l, e := flat.Run(f, first(t, f), []int{5, -1, 1, 9}); e != api.OK || show.Sol(u) != "-1 | 0@0(f0 c0) | 0.0@0[] | " || show.Events(l) != "took@0 0.0(3); said@0 0(3); took@0 0.0(1); said@0 0(1); took@0 0.0(2); said@0 0(2)" {
		t.Error(show.Sol(u), show.Events(l), e)
	}
}

func TestErrors(t *testing.T) {
	f, s := richly(t)
	type sick struct {
		what string
		f    api.FlatProg
		s    api.Sol
	}
	var l []sick
	for _, c := range badly() {
		g := copied(f)
		c.do(&g)
		l = append(l, sick{c.what, g, s})
		if u, said, e := flat.First(g); e != api.ErrArg || !nothing(u, said) {
			t.Error(c.what, show.Sol(u), e)
		}
	}
	for _, c := range spoilings() {
		u := copied(s)
		c.do(&u)
		l = append(l, sick{c.what, f, u})
	}
	for _, c := range l {
		n, e1 := flat.Count(c.f, c.s)
		x, e2 := flat.Nth(c.f, c.s, 100)
		u, said, e3 := flat.Do(c.f, c.s, api.SolStep{Wait: 100})
		w, told, e4 := flat.Run(c.f, c.s, every(0, 300))
		if e1 != api.ErrArg || e2 != api.ErrArg || e3 != api.ErrArg || e4 != api.ErrArg || n != 0 || show.Step(x) != "0" || !nothing(u, said) || !nothing(w, told) {
			t.Error(c.what, e1, e2, e3, e4)
		}
	}
}

// TestTooMuch: what is too much is so though few values are held.
func TestTooMuch(t *testing.T) {
	for source, times := range map[string]int{
		"def x() = def place p { in 0 } in x() in x()":                      23,
		"def x() = def y() = 0 in x() in x()":                               39,
		"def x() = def a() = 0 and b() = 0 and c() = 0 in x() in x()":       19,
		"def x() & y() = x() | (x() | y()) in x() | y()":                    11,
		"def x() = (go out; 0) | x() in x()":                                40,
		"def x() = (watch out; 0) | (watch out; 0) | x() in said() | (x())": 20,
	} {
		f := flatOf(t, bind(t, source))
		s := after(t, f, every(0, times)...)
		x, _ := flat.Nth(f, s, 0)
		if u, l, e := flat.Do(f, s, x); e != api.ErrLong || !nothing(u, l) {
			t.Error(source, show.Sol(u), e)
		}
		if u, l, e := flat.Run(f, first(t, f), every(0, times+1)); e != api.ErrLong || !nothing(u, l) {
			t.Error(source, show.Sol(u), e)
		}
		x.Picks = append(x.Picks, 0)
		if _, _, e := flat.Do(f, s, x); e != api.ErrNone {
			t.Error(source, e)
		}
	}
	p := api.ScopeProg{Free: []string{"out"}, Nodes: []api.ScopeNode{{Op: api.TermPar, Kids: []int{1, 2}}, {Op: api.TermSend}, {Op: api.TermDef, Kids: []int{3}}, {Op: api.TermNil}}, Defs: []api.ScopeDef{{}}}
	for range 24 {
		p.Defs[0].Spots = append(p.Defs[0].Spots, api.ScopeSpot{Node: len(p.Nodes)})
		p.Nodes = append(p.Nodes, api.ScopeNode{Op: api.TermNil})
	}
	if u, l, e := flat.First(flatOf(t, p)); e != api.ErrLong || !nothing(u, l) {
		t.Error(show.Sol(u), e)
	}
}

// TestFirstByChance: whatever is taken, it is at first what the solution is.
func TestFirstByChance(t *testing.T) {
	said := 0
	flats(8, 1500, func(m *maker, p api.ScopeProg, f api.FlatProg) {
		want, events, e := sol.First(p)
		s, l, got := flat.First(f)
		if e != api.OK {
			if got != e || !nothing(s, l) {
				t.Fatal(sample.Source(p), show.Sol(s), got, e)
			}
			return
		}
		if got != api.OK || show.Sol(s) != show.Sol(flattened(f, want)) || show.Events(l) != show.Events(events) || flat.CheckSol(f, s) != api.OK {
			t.Fatal(sample.Source(p), showFlat(f), show.Sol(s), show.Sol(want), show.Events(l), got)
		}
		said += len(l)
	})
	if said < 100 {
		t.Error("only", said)
	}
}

// TestDoByChance: the steps, and what is behind them, are those of the solution, also
// where no run comes to.
func TestDoByChance(t *testing.T) {
	deeds := map[api.SolDeed]int{}
	solutions(t, 9, 250, func(m *maker, f api.FlatProg, p api.ScopeProg, s api.Sol) {
		u := flattened(f, s)
		n, _ := sol.Count(p, s)
		if got, e := flat.Count(f, u); got != n || e != api.OK {
			t.Fatal(sample.Source(p), show.Sol(u), got, n, e)
		}
		for _, i := range m.Perm(n)[:min(n, 4)] {
			x, _ := sol.Nth(p, s, i)
			if y, e := flat.Nth(f, u, i); e != api.OK || show.Step(x) != show.Step(y) {
				t.Fatal(sample.Source(p), show.Sol(u), show.Step(x), show.Step(y), e)
			}
			want, events, e := sol.Do(p, s, x)
			w, l, got := flat.Do(f, u, x)
			if got != e || show.Events(l) != show.Events(events) {
				t.Fatal(sample.Source(p), showFlat(f), show.Sol(u), show.Step(x), show.Events(l), show.Events(events), got, e)
			}
			if e == api.OK && (show.Sol(w) != show.Sol(flattened(f, want)) || flat.CheckSol(f, w) != api.OK) || e != api.OK && !nothing(w, l) {
				t.Fatal(sample.Source(p), showFlat(f), show.Sol(u), show.Step(x), show.Sol(w), show.Sol(want))
			}
			if e == api.OK {
				deeds[l[0].Deed]++
			}
		}
	})
	for _, d := range []api.SolDeed{api.SolTook, api.SolWent, api.SolDied, api.SolTold} {
		if deeds[d] < 10 {
			t.Error(deeds)
		}
	}
}

// TestNoOtherStep: what is none of the steps is not done.
func TestNoOtherStep(t *testing.T) {
	none := 0
	solutions(t, 10, 60, func(m *maker, f api.FlatProg, p api.ScopeProg, s api.Sol) {
		u := flattened(f, s)
		n, _ := sol.Count(p, s)
		for range 4 {
			x := api.SolStep{Wait: -1}
			if n > 0 {
				x, _ = sol.Nth(p, s, m.IntN(n))
			}
			sample.Spoil(m.IntN, &x)
			_, _, e := sol.Do(p, s, x)
			w, l, got := flat.Do(f, u, x)
			if got != e || e != api.OK && !nothing(w, l) {
				t.Fatal(sample.Source(p), show.Sol(u), show.Step(x), got, e)
			}
			if e == api.ErrNone {
				none++
			}
		}
	})
	if none < 300 {
		t.Error("only", none)
	}
}

// TestRunByChance: a run has the events of the program's, whatever is taken; and a run by
// some numbers and then by others is one by all.
func TestRunByChance(t *testing.T) {
	events := 0
	flats(11, 700, func(m *maker, p api.ScopeProg, f api.FlatProg) {
		s, _, e := sol.First(p)
		if e != api.OK {
			return
		}
		var picks []int
		for range m.IntN(20) {
			picks = append(picks, m.IntN(50)-5)
		}
		want, l, e := sol.Run(p, s, picks)
		for _, f := range []api.FlatProg{f, flatOf(t, p)} {
			u := first(t, f)
			w, got, e1 := flat.Run(f, u, picks)
			if e1 != e || show.Events(got) != show.Events(l) || e == api.OK && show.Sol(w) != show.Sol(flattened(f, want)) || e != api.OK && !nothing(w, got) {
				t.Fatal(sample.Source(p), showFlat(f), picks, show.Sol(w), show.Sol(want), show.Events(got), show.Events(l), e1, e)
			}
			if e != api.OK {
				continue
			}
			n := m.IntN(len(picks) + 1)
			a, l1, _ := flat.Run(f, u, picks[:n])
			b, l2, _ := flat.Run(f, a, picks[n:])
			if show.Sol(b) != show.Sol(w) || show.Events(slices.Concat(l1, l2)) != show.Events(got) {
				t.Fatal(sample.Source(p), picks, n, show.Sol(a), show.Sol(b))
			}
		}
		events += len(l)
	})
	if events < 1500 {
		t.Error("only", events)
	}
}
