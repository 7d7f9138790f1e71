package infer_test

import (
	"fmt"
	"strings"
	"testing"

	"cabotage/api"
	"cabotage/infer"
	"cabotage/term"
)

// P4.2

func TestInfer(t *testing.T) {
	for _, c := range []struct{ source, want string }{
		{procA, "error 7"},
		{procB, "chan(int), chan(chan(int)); chan(0, chan(0)): 0"},
		{procC, "chan(int); chan(chan(int)), chan(int)"},
		{procC + " | cell(out)", "error 7"},
		{procD, "0; chan(1): 1, chan(2): 2"},

		{"0", ""},
		{"stop", ""},
		{"x()", "chan()"},
		{"x(1, 2, 3) | go y; watch z; 0", "chan(int, int, int), place, place"},
		{"f(a)", "0, chan(0)"},
		{"z(b, a, b)", "0, 1, chan(1, 0, 1)"},
		{"if a then x(b) else x(c)", "int, 0, 0, chan(0)"},
		{"x(a + b, c - d, e * f) | y(g < h)", "int, int, int, int, int, int, int, int, chan(int, int, int), chan(int)"},
		{"if a == b then x(b == c) else go c; 0", "place, place, place, chan(int)"},
		{"x(x)", "error 7"},
		{"x(y) | y(x)", "error 7"},
		{"x(y) | y(z) | z(w) | w(x)", "error 7"},
		{"x() | x(1)", "error 7"},
		{"x(1) | x(1, 1)", "error 7"},
		{"x(1) | go x; 0", "error 7"},
		{"if x then x() else 0", "error 7"},
		{"x(1) | x(y) | watch y; 0", "error 7"},
		{"if 1 == x then x() else 0", "error 7"},

		// what is defined
		{"def place p { in 0 } in go p; x(p)", "chan(place); "},
		{"def place p { in 0 } in p()", "error 7"},
		{"def place p { in x(p) } in x(1)", "error 7"},
		{"def x() = 0 in 0", "; chan()"},
		{"def x() = 0 in go x; 0", "error 7"},
		{"def x(a, b, c) = 0 in 0", "; chan(0, 1, 2): 0 1 2"},
		{"def x(a, b) = if a == b then 0 else 0 in 0", "; chan(0, 0): 0"},
		{"def x(a) = a() in 0", "; chan(chan())"},
		{"def x(a) = a(a) in 0", "error 7"},
		{"def x(a) = x(a) in 0", "; chan(0): 0"},
		{"def x(a) = x(x) in 0", "error 7"},
		{"def x(a) = 0 in x(x)", "; chan(0): 0"},
		{"def x(a) = 0 in x(x) | x(1) | x(p) | go p; 0", "place; chan(0): 0"},
		// in its Defs, those of its places, and what these hold at first, a channel has one type
		{"def x(a) = x(1) in x(p) | go p; 0", "error 7"},
		{"def x(a) = 0 and y() = x(1) | x(y) in 0", "error 7"},
		{"def x(a) = 0 and place p { y() = x(y) in 0 } in x(1)", "error 7"},
		{"def x(a) = 0 and place p { in x(1) } in x(p)", "error 7"},
		{"def place p { x(a) = 0 in 0 } in x(1) | x(p)", "; chan(0): 0"},
		{"def place p { x(a) = 0 and place q { in x(p) } in 0 } in x(1)", "error 7"},
		{"def x(a) = 0 and x(b) = b(1) in x(p)", "chan(int); chan(chan(int))"},
		// joins
		{"def x(a) & y(b) = if a == b then 0 else 0 in 0", "; chan(0), chan(0)"},
		{"def x(a) & y(b) = if a == b then 0 else 0 in x(1)", "; chan(int), chan(int)"},
		{"def x(a) & y(b) = if a == b then 0 else 0 in x(1) | y(p) | go p; 0", "error 7"},
		{"def x(a, c) & y(b) = if a == b then 0 else 0 in 0", "; chan(0, 1): 1, chan(0)"},
		{"def x(a) & y(b) & z(c) = if a == c then 0 else 0 in y(1) | y(z)", "; chan(0), chan(1): 1, chan(0)"},
		// what has a variable in common, but no join, has it for itself
		{"def x(a) = y(a) and y(b) = 0 in x(1) | y(p) | x(p) | go p; 0", "place; chan(0): 0, chan(1): 1"},
		{"def x(a) = y(a) and y(b) = 0 in x(1)", "; chan(0): 0, chan(1): 1"},
		{"def x(a) = y(a) and y(b) & z(c) = 0 in 0", "; chan(0): 0, chan(1): 1, chan(2): 2"},
		{"def x(a) = y(a) and z(a) = y(a) and y(b) = 0 and x(a) & z(b) = 0 in 0", "; chan(0), chan(0), chan(0)"},
		{"def x(a) & z() = y(a) and y(b) & w(c) = if b == c then 0 else 0 in x(1) | w(p) | go p; 0", "error 7"},
		// joins of rules in places
		{"def place p { x(a) & y(b) = if a == b then 0 else 0 in 0 } in 0", "; chan(0), chan(0)"},
		{"def place p { place q { x(a) & y(b) = if a == b then 0 else 0 in 0 } in 0 } in x(1) | x(p)", "error 7"},
		// a join of a definition within is none of the one around
		{"def x(a) = y(a) and y(b) = def v(a) & w(b) = x(a) | y(b) in 0 in x(1) | y(p)", "0; chan(1): 1, chan(2): 2; chan(3), chan(3)"},
		// the order in which channels stand: those of places come last
		{"def place p { x(a) = a(1) in 0 } and y() = 0 in 0", "; chan(), chan(chan(int))"},
	} {
		if got := inferred(parse(t, c.source)); got != c.want {
			t.Errorf("%s: %s, not %s", c.source, got, c.want)
		}
	}
}

// TestAround: what stands in the type of a name around a TermDef is not general.
func TestAround(t *testing.T) {
	for _, c := range []struct{ source, want string }{
		// free names, wherever they stand
		{"def x(a) = o(a) in 0", "chan(0); chan(0)"},
		{"def x(a) = o(a) in x(1) | x(p) | go p; 0", "error 7"},
		{"def x(a) = o(a) in x(1)", "chan(int); chan(int)"},
		{"def x(a) = o(a) and y(b) = 0 in y(1) | y(o)", "chan(0); chan(0), chan(1): 1"},
		{"(def x(a) = if a == b then 0 else 0 in x(1)) | go b; 0", "error 7"},
		{"(def x(a) = if a == b then 0 else 0 in x(1)) | c(b)", "int, chan(int); chan(int)"},
		// names of the rule in whose body it stands
		{"def x(a, b) = (def y(c) = a(c) in y(b)) in x(o, 1)", "chan(int); chan(chan(0), 0): 0; chan(1)"},
		{"def x(a) = (def y(c) = a(c) in y(1) | y(a)) in 0", "error 7"},
		{"def x(a) = (def y(c) = 0 in y(1) | y(a)) in 0", "; chan(0): 0; chan(1): 1"},
		{"def x(a) & z(b) = (def y(c) = if b == c then 0 else 0 in y(1)) in 0", "; chan(0): 0, chan(int); chan(int)"},
		// what is around what is around
		{"def x(a) = (def z() = (def y(c) = a(c) in y(1) | y(a)) in 0) in 0", "error 7"},
		{"def x(a) = (def z() = (def y(c) = a(c) in y(1)) in 0) in 0", "; chan(chan(int)); chan(); chan(int)"},
		{"def x(a) = (def z() = 0 in (def y(c) = a(c) in y(1) | y(a))) in 0", "error 7"},
		// channels around, in the Defs
		{"def x(a) = (def y(c) = x(c) in y(1) | y(p)) in go p; 0", "error 7"},
		{"def x(a) = (def y(c) = x(c) in y(1)) in x(p) | go p; 0", "error 7"},
		{"def x(a) = (def y(c) = x(c) in y(p)) in go p; x(p)", "place; chan(place); chan(place)"},
		{"def x(a) = 0 and place p { in def y(c) = x(c) in y(1) | y(p) } in 0", "error 7"},
		{"def x(a) = 0 and place p { in def y(c) = x(c) in y(1) } in x(1)", "; chan(int); chan(int)"},
		// in the Kid, unless their variables are general
		{"def x(a) = 0 in def y(b) = x(b) in y(1) | y(y)", "; chan(0): 0; chan(1): 1"},
		{"def x(a) & z(b) = if a == b then 0 else 0 in def y(c) = x(c) in y(1) | y(p) | go p; 0", "error 7"},
		{"def x(a) & z(b) = if a == b then 0 else 0 in def y(c) = x(c) in y(1)", "; chan(int), chan(int); chan(int)"},
		{"def x(a) & z(b) = if a == b then 0 else 0 in def y(c) = x(c) in 0", "; chan(0), chan(0); chan(0)"},
		{"def x(a) & z(b) = if a == b then 0 else 0 in def y(c, d) = x(c) in y(1, 2) | y(3, y)", "; chan(int), chan(int); chan(int, 0): 0"},
		// bound again, names around still have their types
		{"def x(a) = (def v(b) = a(b) in def a(e) = v(e) in a(1) | a(a)) in 0", "error 7"},
		{"def x(a) & z(b) = if a == b then 0 else 0 in def w(d) = x(d) in def x(c) = w(c) in x(1) | x(x)", "error 7"},
		// it is not around what is beside
		{"(def x(a) & z(b) = if a == b then 0 else 0 in x(1)) | def y(b) = 0 in y(1) | y(y)", "; chan(int), chan(int); chan(0): 0"},
		{"def x(a) = (def y(b) = 0 in y(1) | y(y)) and z(c) = 0 in 0", "; chan(0): 0, chan(1): 1; chan(2): 2"},
	} {
		if got := inferred(parse(t, c.source)); got != c.want {
			t.Errorf("%s: %s, not %s", c.source, got, c.want)
		}
	}
}

// TestAhead: what is general is said when all demands ahead of the Kid are met, those
// beside a TermDef among them, and no others.
func TestAhead(t *testing.T) {
	for _, c := range []struct{ source, want string }{
		// b is an integer, or a place, before the definition is, or behind it
		{"x(b + 1) | def y(a) = if a == b then 0 else 0 in y(1)", "int, chan(int); chan(int)"},
		{"(def y(a) = if a == b then 0 else 0 in y(1)) | x(b + 1)", "int, chan(int); chan(int)"},
		// later b is a channel, for any: by then c is not general
		{"(def y(a, c) = b(a) | b(c) in y(1, 2)) | b(3)", "chan(int); chan(int, int)"},
		{"(def y(a) = if a == b then 0 else 0 in 0) | b(c)", "chan(0), 0; chan(chan(0))"},
		{"def x(a) & y(b) = if a == b then 0 else 0 in x(o) | o(c)", "0, chan(0); chan(chan(0)), chan(chan(0))"},
		{"def x(a) & y(b) = if a == b then 0 else 0 in def z(c) = 0 in x(z)", "; chan(chan(0)), chan(chan(0)); chan(1): 1"},
		// the Defs come ahead of the Kid, whatever stands first in them
		{"def x(a) = 0 and z() = x(1) in x(2)", "; chan(int), chan()"},
		{"def x(a) = 0 and z() = x(1) in x(z)", "error 7"},
		{"def x(a) = (def y() = x(1) in 0) in x(x)", "error 7"},
		{"def x(a) = 0 and place p { in x(1) } in x(x)", "error 7"},
	} {
		if got := inferred(parse(t, c.source)); got != c.want {
			t.Errorf("%s: %s, not %s", c.source, got, c.want)
		}
	}
}

func TestBindings(t *testing.T) {
	for _, c := range []struct{ source, want string }{
		// each rule has its own names
		{"def x(a) = go a; 0 and y(a) = a() in 0", "; chan(place), chan(chan())"},
		{"def x(a) = 0 and y(b) = a(b) in x(1) | y(1)", "chan(int); chan(0): 0, chan(int)"},
		// innermost first
		{"x(1) | def x() = x() in x()", "chan(int); chan()"},
		{"def x(a) = (def x() = x() in x()) in x(1)", "; chan(0): 0; chan()"},
		{"def x(x) = x(1) in x(o)", "chan(int); chan(chan(int))"},
		{"def x(p) = p() and place p { in 0 } in go p; x(o)", "chan(); chan(chan())"},
		{"def place p { in 0 } in def p() = 0 in p()", "; ; chan()"},
		{"def p() = 0 in def place p { in 0 } in go p; 0", "; chan(); "},
		{"(def y(a) = 0 in y(1)) | y()", "chan(); chan(0): 0"},
	} {
		if got := inferred(parse(t, c.source)); got != c.want {
			t.Errorf("%s: %s, not %s", c.source, got, c.want)
		}
	}
}

// towers is a source in which the type of d has 121 nodes, that of r 36 more than
// what u brings.
func towers(u, more string) string {
	return "a(1, 1, 1) | b(a, a, a) | c(b, b, b) | d(c, c, c) | " + u + " | s(a, a, u) | r(b, b, s) | " + more
}

// swarm is a source whose channels have 1000 variables if s takes one value.
func swarm(s string) string {
	const two, three = "a(z, v) | b(z, v)", "a(z, v) | b(z, v) | c(z, v)"
	return "def y(a, b, c) = 0 in def w(u) = u(y, y, y) in def v(u) = u(w, w, w) in def z(u) = u(v, v, v) in" +
		" def f(a) & g(b) & h(c) = " + three + " and i(a) & j(b) & k(c) = " + three + " and l(a) & m(b) = " + two +
		" and n(a, b, c) & o(d, e, f) & p(g, h, i) = 0 and q(a, b, c) & r(d, e, f) & " + s + " = 0 in 0"
}

func TestInferLong(t *testing.T) {
	for _, c := range []struct {
		source string
		nodes  int // the most that a type has; 0: too many
	}{
		{towers("u(1)", "e(d, c, r)"), 200},
		{towers("u(1, 1)", "e(d, c, r)"), 0},
		{towers("u(1)", "def e(d, c, r) = 0 in e(d, c, r)"), 121},
		{towers("u(1)", "def e(v, w, z) = e(d, c, r) in 0"), 200},
		{towers("u(1, 1)", "def e(v, w, z) = e(d, c, r) in 0"), 0},
		{towers("u(1)", "def e(v, w, z) = 0 in e(d, d, d)"), 121},  // this one is not returned
		{towers("u(1)", "def e(v, w) & y() = 0 in e(d, c)"), 121},  // nor is this
		{towers("u(p)", "def e(v, w, z) = v(z) in e(d, c, r)"), 0}, // it does not type
	} {
		y, e := infer.Infer(parse(t, c.source))
		most := 0
		for _, k := range y.Free {
			most = max(most, nodesOf(k))
		}
		for _, d := range y.Defs {
			for _, s := range d {
				most = max(most, nodesOf(s.Type))
			}
		}
		want := api.OK
		if c.nodes == 0 {
			want = api.ErrLong
		}
		if strings.Contains(c.source, "v(z)") {
			want = api.ErrRule
		}
		if e != want || most != c.nodes {
			t.Error(c.source, most, e)
		}
	}
	y, e := infer.Infer(parse(t, swarm("s(g)")))
	if last := y.Defs[4]; e != api.OK || showScheme(last[len(last)-1]) != "chan(999): 999" {
		t.Error(e, y)
	}
	if got := inferred(parse(t, swarm("s(g, h)"))); got != "error 3" {
		t.Error(got)
	}
}

// TestInferLarge: types that would be far too large to be written down are no matter
// where they are not returned.
func TestInferLarge(t *testing.T) {
	powers := "a(1, 1, 1)"
	for i := range rune(9) {
		powers += fmt.Sprintf(" | %[2]c(%[1]c, %[1]c, %[1]c)", 'a'+i, 'b'+i)
	}
	if got := inferred(parse(t, powers)); got != "error 3" {
		t.Error(powers, got)
	}
	if is, e := infer.Types(parse(t, powers+" | j(k)"), nil); e != api.OK || !is {
		t.Error(is, e)
	}
	// Each channel has thrice as many variables as the one before it.
	instances := "def a(x) = 0 in "
	for i := range rune(8) {
		instances += fmt.Sprintf("def %[2]c(x) = x(%[1]c, %[1]c, %[1]c) in ", 'a'+i, 'b'+i)
	}
	if got := inferred(parse(t, instances+"0")); got != "error 3" {
		t.Error(got)
	}
	if got := inferred(parse(t, instances+"i()")); got != "error 7" {
		t.Error(got)
	}
	if l, e := infer.Explain(parse(t, instances+"i()")); e != api.OK || len(l) != 2 {
		t.Error(l, e)
	}
}

func TestInferErrors(t *testing.T) {
	for i, u := range []api.Term{{}, {Op: 9}, {Op: api.TermNil, Text: "x"}, {Op: api.TermSend, Text: "in"}, {Op: api.TermPar, Kids: []api.Term{{Op: api.TermNil}}}} {
		if y, e := infer.Infer(u); e != api.ErrArg || len(y.Free)+len(y.Defs) > 0 {
			t.Error(i, y, e)
		}
	}
}

// TestInferChance: types are those of a plain reading, and a process that is the
// same up to bound names has the same ones.
func TestInferChance(t *testing.T) {
	types, general, kept := 0, 0, 0
	formed(t, 2, 12000, func(m *maker, u api.Term) {
		p := newPlain(u)
		_, ok := p.meet(every(u))
		want := "error 7"
		if ok {
			types++
			y := p.typing()
			want = showTyping(y)
			for _, d := range y.Defs {
				for _, s := range d {
					general += len(s.All)
					kept += len(variables(s.Type)) - len(s.All)
				}
			}
		}
		if got := inferred(u); got != want {
			t.Fatalf("%s: %s, not %s", printed(u), got, want)
		}
		v, _ := term.Canon(u)
		if got := inferred(v); got != want {
			t.Fatalf("%s: %s, not %s", printed(v), got, want)
		}
	})
	if types < 3000 || general < 500 || kept < 100 {
		t.Errorf("only %d processes type, with %d and %d variables", types, general, kept)
	}
}
