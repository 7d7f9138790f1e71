package sol_test

import (
	"testing"

	"cabotage/api"
	"cabotage/show"
	"cabotage/sol"
)

// P6.2: First

func TestFirst(t *testing.T) {
	for _, c := range []struct{ source, sol, events string }{
		{"0", "-1 |  |  | ", ""},
		{"stop", "-1 |  |  | 0@0()", ""},
		{"out(1, 2 + 3) | out() | a(out)", "-1 |  |  | ", "said@0 1(1 5); said@0 1(); said@0 0(f1)"},
		{"(go a; b()) | watch b; a()", "-1 |  |  | 1@0(f0 f1) 3@0(f0 f1)", ""},
		{example, "-1 0 | 0@0(f0 c0 c1 p1) | 0.0@0[(1)(2)] 0.1@0[()] | 2@1(f0 c0 c1 p1) 9@0(f0 c0 c1 p1)", ""},
		// The first Kid comes first, whatever stands in it.
		{"a() | (b() | c()) | d()", "-1 |  |  | ", "said@0 0(); said@0 1(); said@0 2(); said@0 3()"},
		{"(stop | go a; 0) | watch a; 0", "-1 |  |  | 2@0(f0) 3@0(f0) 5@0(f0)", ""},
		// What is tested.
		{"(if 1 then a() else b()) | (if 0 then a() else b()) | (if ~1 then a() else b())", "-1 |  |  | ", "said@0 0(); said@0 1(); said@0 0()"},
		{"(if a then a() else b()) | if a < 1 then c() else d()", "-1 |  |  | ", "said@0 1(); said@0 2()"},
		{"def x() = 0 and place p { in 0 } in (if x then a() else b()) | if p then a() else b()", "-1 0 | 0@0(f0 f1 c0 p1) | 0.0@0[] | ", "said@0 1(); said@0 1()"},
		// Where messages go to.
		{"def x(a) = 0 in x(1) | x() | x(1, 2) | x(out) | x(x) | x(x + 1)", "-1 | 0@0(f0 c0) | 0.0@0[(1)(f0)(c0)(1)] | ", ""},
		{"def x() = 0 and place p { in 0 } in p() | p(1) | x()", "-1 0 | 0@0(c0 p1) | 0.0@0[()] | ", ""},
		{"def place p { x() = 0 in 0 } in x() | out(x, p)", "-1 0 | 0@0(f0 c0 p1) | 0.0@1[()] | ", "said@0 0(c0 p1)"},
		// Channels come before places, and the places of a definition before what is in them.
		{
			"def place p { z() = 0 and place q { w() = 0 in out(1) | watch p; 0 } in out(2) } and x() = 0 and place r { in out(3) } in out(4)",
			"-1 0 1 0 | 0@0(f0 c0 c1 c2 p1 p2 p3) | 0.0@0[] 0.1@1[] 0.2@2[] | 7@2(f0 c0 c1 c2 p1 p2 p3)",
			"said@1 0(2); said@2 0(1); said@3 0(3); said@0 0(4)",
		},
		// Definitions within each other.
		{
			"def x() = 0 and place p { in def y() = 0 and place q { in x() | y() } in y() } in def z(a) = 0 in z(p)",
			"-1 0 1 | 0@0(c0 p1) 1@1(c0 p1 c1 p2) 2@0(c0 p1 c2) | 0.0@0[()] 1.0@1[()()] 2.0@0[(p1)] | ", "",
		},
		{"def x() = 0 in (def y() = 0 in y()) | def y() = 0 in x()", "-1 | 0@0(c0) 1@0(c0 c1) 2@0(c0 c2) | 0.0@0[()] 1.0@0[()] 2.0@0[] | ", ""},
	} {
		p := bind(t, c.source)
		s, l, e := sol.First(p)
		if e != api.OK || show.Sol(s) != c.sol || show.Events(l) != c.events {
			t.Errorf("%s:\n%s\n%s %d", c.source, show.Sol(s), show.Events(l), e)
		}
	}
}

// TestFirstElsewhere: nodes and definitions may have any numbers.
func TestFirstElsewhere(t *testing.T) {
	p := api.ScopeProg{
		Free: []string{"a", "b"}, Main: 3,
		Nodes: []api.ScopeNode{{Op: api.TermSend, N: 1, Args: []api.ScopeExp{name(2)}}, node(api.TermStop, 0), node(api.TermDef, 0, 1), node(api.TermDef, 1, 2), node(api.TermNil, 0)},
		Defs:  []api.ScopeDef{{Spots: []api.ScopeSpot{{Node: 0}}}, {Spots: []api.ScopeSpot{{Node: 4}}}},
	}
	s, l, e := sol.First(p)
	if e != api.OK || show.Sol(s) != "-1 0 0 | 1@0(f0 f1 p1) 0@0(f0 f1 p1 p2) |  | 1@0(f0 f1 p1 p2)" || show.Events(l) != "said@2 1(p1)" {
		t.Error(show.Sol(s), show.Events(l), e)
	}
}

// wide is a program of one definition with so many places, and so many channels.
func wide(spots, chans int) api.ScopeProg {
	p := api.ScopeProg{Nodes: []api.ScopeNode{node(api.TermDef, 0, 1), node(api.TermNil, 0)}, Defs: []api.ScopeDef{{}}}
	for range spots {
		p.Defs[0].Spots = append(p.Defs[0].Spots, api.ScopeSpot{Node: len(p.Nodes)})
		p.Nodes = append(p.Nodes, node(api.TermNil, 0))
	}
	for i := range chans {
		p.Defs[0].Chans = append(p.Defs[0].Chans, api.ScopeChan{})
		p.Defs[0].Rules = append(p.Defs[0].Rules, api.ScopeRule{Joins: []int{i}, Node: len(p.Nodes)})
		p.Nodes = append(p.Nodes, node(api.TermNil, 0))
	}
	return p
}

// beside is a source of so many x() beside each other.
func beside(n int) string {
	if n == 1 {
		return "x()"
	}
	return "(" + beside(n/2) + ") | " + beside(n-n/2)
}

func TestFirstTooMuch(t *testing.T) {
	for i, c := range []struct {
		p    api.ScopeProg
		want api.Errno
	}{{wide(23, 30), api.OK}, {wide(24, 0), api.ErrLong}, {wide(30, 1), api.ErrLong}, {bind(t, "def x() = 0 in "+beside(12)), api.OK}, {bind(t, "def x() = 0 in "+beside(13)), api.ErrLong}} {
		s, l, e := sol.First(c.p)
		if e != c.want || e != api.OK && (show.Sol(s) != show.Sol(api.Sol{}) || len(l) > 0) {
			t.Error(i, show.Sol(s), show.Events(l), e)
		}
	}
	// With it nothing of what was said before is returned.
	p := wide(24, 0)
	p.Free = []string{"out"}
	p.Nodes = append(p.Nodes, node(api.TermPar, 0, len(p.Nodes)+1, 0), node(api.TermSend, 0))
	p.Main = len(p.Nodes) - 2
	if s, l, e := sol.First(p); e != api.ErrLong || show.Sol(s) != show.Sol(api.Sol{}) || len(l) > 0 {
		t.Error(show.Sol(s), show.Events(l), e)
	}
}

func TestFirstByChance(t *testing.T) {
	m := newMaker(3)
	said := 0
	for range 5000 {
		p := m.program()
		s, l, e := sol.First(p)
		want, events := newPlain(p).first()
		if isTooMuch(want) {
			if e != api.ErrLong || show.Sol(s) != show.Sol(api.Sol{}) || len(l) > 0 {
				t.Fatal(source(p), show.Sol(s), e)
			}
			continue
		}
		if e != api.OK || show.Sol(s) != show.Sol(want) || show.Events(l) != show.Events(events) || sol.Check(p, s) != api.OK {
			t.Fatal(source(p), show.Sol(s), show.Sol(want), show.Events(l), show.Events(events), e)
		}
		said += len(l)
	}
	if said < 500 {
		t.Error("only", said)
	}
}
