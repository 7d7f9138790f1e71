package flat_test

import (
	"slices"
	"testing"

	"cabotage/api"
	"cabotage/flat"
	"cabotage/sample"
)

// P7.2

func TestFlat(t *testing.T) {
	for _, c := range []struct{ source, flat string }{
		{example, "[0 1]; 0 [1]; 1!0(4); 2 []; 3 [0 2 4]!2; 5!1(_); 6!0(_)"},
		{"0", "[]"}, {"stop", "[]; 0 []"}, {"a()", "[0]; 0!0()"}, {"go a; 0", "[0]; 0 [0]!0"},
		{"watch a; b(c)", "[0 1 2]; 0 [0 1 2]!0; 1!1(2)"},
		{"go a; watch b; (go a; 0) | c(a + d)", "[0 1 2 3]; 0 [0 1 2 3]!0; 1 [0 1 2 3]!1; 3 [0]!0; 5!2((0 3))"},
		// A TermDef takes what its rules and places need, and not what its Kid needs.
		{"def x(a) = (def y(b) = 0 in x(b, o)) in 0", "[0 1]; 0 [0 1]; 1 []; 3!2(0 1)"},
		{"def x() = def y(b) = out(x) in go b; 0 in 0", "[0 1]; 0 [0 1]; 1 [1 2]; 2!0(1); 3 [0]!0"},
		{"def x() = 0 in a(b, x)", "[0 1]; 0 []; 2!0(1 2)"},
		{"def place p { in a() } in b()", "[0 1]; 0 [0]; 1!0(); 2!1()"},
		// What is needed within goes through all that is around.
		{"def x(k) = def y() = def z() = k(o) in 0 in 0 in o()", "[0]; 0 [0]; 1 [0 2]; 2 [0 1]; 3!1(0); 6!0()"},
		{"def place p { x() = 0 in stop } in go p; stop", "[]; 0 []; 2 []; 3 [1]!0; 4 []"},
		{"def x() = 0 and place p { in 0 } in go p; def y() = x() and z() = 0 in y() | a()", "[0]; 0 []; 3 [0 1 2]!2; 4 [1]; 5!0(); 8!3(); 9!0()"},
		{"if a < b then (go c; 0) else stop", "[0 1 2]; 0((0 1)); 1 [2]!0; 3 []"},
	} {
		p := bind(t, c.source)
		f, e := flat.Flat(p)
		if e != api.OK || showFlat(f) != c.flat {
			t.Error(c.source, showFlat(f), e)
		}
		if q, e := flat.Open(f); e != api.OK || text(q) != text(p) {
			t.Error(c.source, text(q), e)
		}
	}
}

// TestFlatElsewhere: nodes and definitions may have any numbers, and what is free need
// not be needed.
func TestFlatElsewhere(t *testing.T) {
	p := api.ScopeProg{
		Free: []string{"a", "b", "c"}, Main: 3,
		Nodes: []api.ScopeNode{{Op: api.TermSend, N: 2, Args: []api.ScopeExp{{Op: api.TermName, N: 4}}}, {Op: api.TermStop}, {Op: api.TermDef, Kids: []int{1}}, {Op: api.TermDef, N: 1, Kids: []int{2}}, {Op: api.TermNil}},
		Defs:  []api.ScopeDef{{Spots: []api.ScopeSpot{{Node: 0}}}, {Spots: []api.ScopeSpot{{Node: 4}}}},
	}
	f := flatOf(t, p)
	if showFlat(f) != "[2]; 0!0(1); 1 []; 2 [0]; 3 []" || f.Main != 3 || text(open(t, f)) != text(p) {
		t.Error(text(f))
	}
}

func TestFlatNotFormed(t *testing.T) {
	p := bind(t, rich)
	p.Nodes[4].N = 20
	for _, p := range []api.ScopeProg{{}, {Main: 1}, p} {
		if f, e := flat.Flat(p); e != api.ErrArg || text(f) != text(api.FlatProg{}) {
			t.Error(text(f), e)
		}
	}
}

func TestSpare(t *testing.T) {
	f := flatOf(t, bind(t, example))
	group := copied(f) // the TermDef takes 0 1
	group.Nodes[0].Take = []int{0, 1}
	group.Nodes[1].N, group.Nodes[1].Args[0].N = 1, 5
	more := flatOf(t, bind(t, "a()"))
	more.Free = append(more.Free, "b")
	all := copied(more)
	all.Take = []int{0, 1}
	for i, c := range []struct {
		f    api.FlatProg
		want int
	}{{f, 0}, {group, 1}, {loose(t), 2}, {more, 0}, {all, 1}} {
		if n, e := flat.Spare(c.f); e != api.OK || n != c.want {
			t.Error(i, n, e)
		}
	}
	if p := open(t, group); text(p) != text(bind(t, example)) {
		t.Error(text(p))
	}
}

// TestLeast: no flat program of a program takes less.
func TestLeast(t *testing.T) {
	m := newMaker(3)
	for range 120 {
		p := sample.Program(m.IntN, 3)
		if f, want := flatOf(t, p), leastOf(p); text(f) != text(want) {
			t.Fatal(sample.Source(p), showFlat(f), showFlat(want))
		}
	}
}

func TestOpenByChance(t *testing.T) {
	spared := 0
	flats(4, 800, func(m *maker, p api.ScopeProg, f api.FlatProg) {
		if q, e := flat.Open(f); e != api.OK || text(q) != text(p) {
			t.Fatal(sample.Source(p), showFlat(f), text(q), text(p), e)
		}
		g := flatOf(t, p)
		if q, e := flat.Open(g); e != api.OK || text(q) != text(p) {
			t.Fatal(sample.Source(p), showFlat(g), text(q), text(p), e)
		}
		if n, e := flat.Spare(g); e != api.OK || n != 0 {
			t.Fatal(sample.Source(p), showFlat(g), n, e)
		}
		spare, l, least := 0, taken(f), taken(g)
		for i, places := range least {
			for _, place := range places {
				if !slices.Contains(l[i], place) {
					t.Fatal(sample.Source(p), "not taken by all", showFlat(f), showFlat(g))
				}
			}
			spare += len(l[i]) - len(places)
		}
		if n, e := flat.Spare(f); e != api.OK || n != spare {
			t.Fatal(sample.Source(p), showFlat(f), n, spare, e)
		}
		if spare > 0 {
			spared++
		}
	})
	if spared < 400 {
		t.Error("only", spared)
	}
}

// TestOpenOthers: what is formed though it was changed is opened as it says.
func TestOpenOthers(t *testing.T) {
	n := 0
	flats(5, 800, func(m *maker, p api.ScopeProg, f api.FlatProg) {
		for range 3 {
			g := f
			sample.Spoil(m.IntN, &g)
			if !isFormed(g) {
				continue
			}
			n++
			if q, e := flat.Open(g); e != api.OK || text(q) != text(opened(g)) {
				t.Fatal(text(g), text(q), e)
			}
		}
	})
	if n < 400 {
		t.Error("only", n)
	}
}
