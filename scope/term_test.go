package scope_test

import (
	"testing"

	"cabotage/api"
	"cabotage/scope"
	"cabotage/term"
)

// P3.5

func spelt(t *testing.T, p api.ScopeProg) string {
	t.Helper()
	u, e := scope.Term(p)
	if e != api.OK {
		t.Fatal(e, show(p))
	}
	return printed(u)
}

// TestNames: names are chosen as nodes stand in order: those of a definition, then
// those of each rule with all that stands in it, then what is in its places.
func TestNames(t *testing.T) {
	for _, c := range []struct{ source, want string }{
		{"0", "0"},
		{"x(y + 1, ~2) | stop", "x(y + 1, ~2) | stop"},
		{example, "def a(e) & c() = z(e, b) and place d { in go q; a(1) } in c() | watch d; 0"},
		{rich, "def a(g) & b() = if g < 1 then out(g + ~2, a) else watch e; stop and c() = 0" +
			" and place e { d(h, i) = def j() = b() in j() and place f { in go e; 0 } in d(1, f) } in b() | go o; a(3)"},
		{"def x(a) = def y(b) = 0 in 0 and z(c) = 0 in def u(d) = 0 in 0", "def a(c) = def d(e) = 0 in 0 and b(f) = 0 in def g(h) = 0 in 0"},
		{"(def x(y) = 0 in 0) | def x(y) = 0 in 0", "(def a(b) = 0 in 0) | def c(d) = 0 in 0"},   // none is chosen twice
		{"def x(y) = a(y) in c(d)", "def b(e) = a(e) in c(d)"},                                   // none of the Free is chosen
		{"def x(y, z) & u(v) = 0 in 0", "def a(c, d) & b(e) = 0 in 0"},                           // by the Joins
		{"def place p { in def x() = 0 in 0 } in 0", "def place a { in def b() = 0 in 0 } in 0"}, // within a place
		{ // rules come first: also before the bodies of the places around them
			"def place p { x(y) = 0 in def z() = 0 in 0 } and u(v) = 0 in 0",
			"def a(d) = 0 and place c { b(e) = 0 in def f() = 0 in 0 } in 0",
		},
		{ // rules of places come by the places, before what is in any of them
			"def place p { x(a) = 0 and place q { y(a) = 0 in def r() = 0 in 0 } in def s() = 0 in 0 } and place t { z(a) = 0 in def u() = 0 in 0 } in 0",
			"def place d { a(g) = 0 and place e { b(h) = 0 in def k() = 0 in 0 } in def j() = 0 in 0 } and place f { c(i) = 0 in def l() = 0 in 0 } in 0",
		},
	} {
		if got := spelt(t, bind(t, c.source)); got != c.want {
			t.Errorf("%s:\n%s", c.source, got)
		}
	}
}

// TestOthers: programs that are not in order have processes, too.
func TestOthers(t *testing.T) {
	none := api.ScopeProg{Free: []string{"a", "c"}, Nodes: []api.ScopeNode{node(api.TermDef, 0, 1), node(api.TermNil, 0), node(api.TermStop, 0)}}
	none.Defs = []api.ScopeDef{{Spots: []api.ScopeSpot{{Node: 2}}}}
	if s := spelt(t, none); s != "def place b { in stop } in 0" { // a Free that is not needed is no name either
		t.Error(s)
	}
	p := bind(t, example)
	p.Defs[0].Rules[0].Joins = []int{1, 0}
	if s := spelt(t, p); s != "def c() & a(e) = z(e, b) and place d { in go q; a(1) } in c() | watch d; 0" {
		t.Error(s)
	}
	p = bind(t, example)
	p.Nodes[0], p.Nodes[7], p.Nodes[6].Kids[0], p.Main = p.Nodes[7], p.Nodes[0], 0, 7
	if s := spelt(t, p); s != "def a(e) & c() = z(e, b) and place d { in go q; a(1) } in c() | watch d; 0" {
		t.Error(s)
	}
	p = bind(t, "def x(v) = 0 and y(w) = stop and place p { z(u) = z(u) in z(1) } and place q { in z(2) } in 0")
	r := p.Defs[0].Rules
	r[0], r[2] = r[2], r[0] // rules stand where they are, and are gone through as they come
	p.Defs[0].Spots[1].In = 1
	if s := spelt(t, p); s != "def b(g) = stop and a(h) = 0 and place d { c(f) = c(f) and place e { in c(2) } in c(1) } in 0" {
		t.Error(s)
	}
}

func TestTermLong(t *testing.T) {
	over := func(what string, p api.ScopeProg) {
		t.Helper()
		if scope.Check(p) != api.OK {
			t.Error(what, "not formed", show(p))
		}
		if u, e := scope.Term(p); e != api.ErrLong || printed(u) != printed(api.Term{}) {
			t.Error(what, e, printed(u))
		}
	}
	short := func(what string, p api.ScopeProg) {
		t.Helper()
		if u, e := scope.Term(p); e != api.OK || term.Check(u) != api.OK {
			t.Error(what, e)
		}
	}
	short("11 levels of expressions", saying(deep(11)))
	over("12 levels of expressions", saying(deep(12)))
	short("60 nodes", saying(wide(29), wide(29), num(1)))
	over("61 nodes", saying(wide(29), wide(31)))
	short("12 levels", long(12))
	over("13 levels", long(13))
	short("5 definitions", broad(1, 1, 4))
	over("6 definitions", broad(1, 1, 5))
	over("nothing defined", api.ScopeProg{Nodes: []api.ScopeNode{node(api.TermDef, 0, 1), node(api.TermNil, 0)}, Defs: []api.ScopeDef{{}}})
	over("places in places", broad(1, 12, 1))
	over("much of all", broad(30, 28, 30))
	over("definitions in each other", chain(12))
}

func TestTermChance(t *testing.T) {
	n := 0
	formed(t, 5, func(m *maker, p api.ScopeProg) {
		u, e := scope.Term(p)
		v := newPlain(p).term()
		if term.Check(v) != api.OK {
			if e != api.ErrLong || printed(u) != printed(api.Term{}) {
				t.Fatal(e, printed(u), show(p))
			}
			return
		}
		n++
		if e != api.OK || printed(u) != printed(v) {
			t.Fatal(e, printed(u), printed(v), show(p))
		}
		// What it is the program of is the same one, but in order.
		q, e := scope.Bind(u)
		if e != api.OK || inOrder(t, p) != same(p, q) || spelt(t, q) == "" {
			t.Fatal(e, show(p), show(q))
		}
		w, _ := scope.Term(q)
		if r, e := scope.Bind(w); e != api.OK || !same(q, r) {
			t.Fatal(e, show(q), show(r))
		}
	})
	if n < 1000 {
		t.Errorf("only %d processes", n)
	}
}

// TestCanon: without rules in places, names are chosen as in layer 1.
func TestCanon(t *testing.T) {
	n := 0
	processes(t, 6, func(m *maker, u api.Term) {
		u = rulesFirst(u)
		if !flat(u) {
			return
		}
		n++
		v, _ := term.Canon(u)
		p, _ := scope.Bind(u)
		if s := spelt(t, p); s != printed(v) {
			t.Fatal(printed(u), printed(v), s)
		}
	})
	if n < 500 {
		t.Errorf("only %d processes", n)
	}
}

func flat(u api.Term) bool {
	for _, c := range u.Defs {
		if len(c.Defs) > 0 || !flat(c.Kids[0]) {
			return false
		}
	}
	for _, k := range u.Kids {
		if !flat(k) {
			return false
		}
	}
	return true
}
