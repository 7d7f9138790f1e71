package flat_test

import (
	"fmt"
	"math"
	"slices"
	"testing"

	"cabotage/api"
	"cabotage/flat"
	"cabotage/sample"
)

// P7.1

func TestLists(t *testing.T) {
	for _, c := range []struct{ source, lists string }{
		{example, "[[0 1] [1 2 3 4 5] [1 2 3 4] [0 1 2 3 4] [0 2 4] [0 2 4] [0 2 4]]"},
		{"0", "[[]]"}, {"go a; 0", "[[0] [0]]"},
		{"watch a; b(c)", "[[0 1 2] [0 1 2]]"},
		// Of what is taken no more goes on.
		{"go a; watch b; (go a; 0) | c(a + d)", "[[0 1 2 3] [0 1 2 3] [0 1 2 3] [0 1 2 3] [0] [0 1 2 3]]"},
		{"def x() = def y(b) = out(x) in go b; 0 in 0", "[[0 1] [0 1 2] [1 2 3 4] [0 1 2 3] [0] [0 1 2]]"},
		// The Kid of a TermDef has all that is around this, its rules have not.
		{"def x(a) = (def y(b) = 0 in x(b, o)) in 0", "[[0 1] [0 1 2 3] [4 5] [0 1 2 3 4] [0 1 2]]"},
		{"def x(k) = def y() = def z() = k(o) in 0 in 0 in o()", "[[0] [0 1 2] [0 2 3] [0 2 4] [0 2 3 4] [0 1 2 3] [0 1]]"},
		{"def x() = 0 and place p { in 0 } in go p; def y() = x() and z() = 0 in y() | a()", "[[0] [1 2] [1 2] [0 1 2] [0 1 2] [1 3 4] [1 3 4] [0 1 2 3 4] [0 1 2 3 4] [0 1 2 3 4]]"},
		{"def place p { x() = 0 in stop } in go p; stop", "[[] [0 1] [0 1] [0 1] [1]]"},
	} {
		l, e := flat.Lists(flatOf(t, bind(t, c.source)))
		if e != api.OK || fmt.Sprint(l) != c.lists {
			t.Error(c.source, l, e)
		}
	}
	if l, e := flat.Lists(loose(t)); e != api.OK || fmt.Sprint(l) != "[[0 1] [0 1 2 3 4 5] [0 1 2 3 4] [0 1 2 3 4] [0 2 4] [0 2 4] [0 2 4]]" {
		t.Error(l, e)
	}
}

// change is a change to a flat program.
type change struct {
	what string
	do   func(f *api.FlatProg)
}

// badTakes are changes to what the flat program of rich takes. It has the TermDefs 0
// (which takes 0 and 1 of 0 1), 2 (1 8 9 of 0 to 9) and 18 (0 2 5 of 0 to 7); 3, 8, 15, 16,
// 19 and 27 are processes that go or watch, 10 is one that stops, all others take nothing.
func badTakes() []change {
	var l []change
	take := func(n int, places ...int) {
		l = append(l, change{fmt.Sprint(n, " takes ", places), func(f *api.FlatProg) { f.Nodes[n].Take = places }})
	}
	main := func(places ...int) {
		l = append(l, change{fmt.Sprint("Main takes ", places), func(f *api.FlatProg) { f.Take = places }})
	}
	main()
	main(0)
	main(1)
	main(1, 0)
	main(0, 0)
	main(0, 1, 2)
	main(-1, 0)
	main(0, 1, math.MaxInt)
	take(0)
	take(0, 0)
	take(0, 1, 0)
	take(0, 0, 1, 1)
	take(0, 0, 1, 2) // what it defines is behind what it takes
	take(2, 1, 8)
	take(2, 1, 9, 8)
	take(2, 1, 8, 9, 10)
	take(2, math.MinInt, 8, 9)
	take(3, 0, 1, 2)
	take(3, 0, 2, 1, 5)
	take(3, 0, 1, 2, 6)
	take(8, 9)
	take(8, 5, 9, 10)
	take(10, 2)
	take(10, -1)
	take(10, 0, 0)
	take(16)
	take(16, 2)
	for _, n := range []int{1, 4, 5, 9, 13, 17, 20, 23} {
		take(n, 0)
	}
	return l
}

// badIndices are changes to what stands in nodes.
func badIndices() []change {
	var l []change
	node := func(n int, numbers ...int) {
		for _, i := range numbers {
			l = append(l, change{fmt.Sprint("the N of ", n, " is ", i), func(f *api.FlatProg) { f.Nodes[n].N = i }})
		}
	}
	node(0, -1, 1, 3)
	node(1, 1)
	node(3, -1, 4, math.MaxInt)
	node(4, -1, 4) // the list of the Kid of a TermGo, as all indices in it
	node(6, -1, 12)
	node(10, 1)
	node(11, 2)
	node(12, 9)
	node(16, 1)
	node(19, 3)
	node(20, 4)
	node(27, 2, -1)
	node(28, 2)
	name := func(n, arg, index int) {
		l = append(l, change{fmt.Sprint("a name of ", n, " is ", index), func(f *api.FlatProg) { f.Nodes[n].Args[arg].N = index }})
	}
	name(4, 0, -1)
	name(4, 1, 4)
	name(12, 0, 9)
	name(20, 1, 4)
	name(28, 1, 2)
	name(20, 0, 1000000001)
	within := func(index int) {
		l = append(l, change{fmt.Sprint("a name within 1 is ", index), func(f *api.FlatProg) { f.Nodes[1].Args[0].Kids[0].N = index }})
	}
	within(-1)
	within(10)
	return l
}

// badOthers are changes to what flat programs have as programs do.
func badOthers() []change {
	return []change{
		{"no nodes", func(f *api.FlatProg) { f.Nodes = nil }}, {"a node too few", func(f *api.FlatProg) { f.Nodes = f.Nodes[:28] }}, {"a node too many", func(f *api.FlatProg) { f.Nodes = append(f.Nodes, api.FlatNode{Op: api.TermNil}) }},
		{"a ring", func(f *api.FlatProg) { f.Nodes[3].Kids[0] = 3 }}, {"a node twice", func(f *api.FlatProg) { f.Nodes[3].Kids[0] = 6 }}, {"no such node", func(f *api.FlatProg) { f.Nodes[3].Kids[0] = 29 }}, {"no such node", func(f *api.FlatProg) { f.Nodes[3].Kids[0] = -1 }}, {"no Kid", func(f *api.FlatProg) { f.Nodes[3].Kids = nil }},
		{"Main 1", func(f *api.FlatProg) { f.Main = 1 }}, {"Main -1", func(f *api.FlatProg) { f.Main = -1 }}, {"Main 29", func(f *api.FlatProg) { f.Main = 29 }},
		{"no kind", func(f *api.FlatProg) { f.Nodes[10].Op = 0 }}, {"no kind", func(f *api.FlatProg) { f.Nodes[10].Op = 9 }}, {"another kind", func(f *api.FlatProg) { f.Nodes[16].Op = api.TermStop }}, {"another kind", func(f *api.FlatProg) { f.Nodes[8].Op = api.TermPar }},
		{"Free not sorted", func(f *api.FlatProg) { slices.Reverse(f.Free) }}, {"Free twice", func(f *api.FlatProg) { f.Free[1] = f.Free[0] }}, {"Free no name", func(f *api.FlatProg) { f.Free[0] = "go" }}, {"Free too few", func(f *api.FlatProg) { f.Free = f.Free[:1] }}, {"too many Free", func(f *api.FlatProg) {
			f.Free = []string{"a", "b", "c", "d", "e", "f", "g", "h", "i", "j", "k", "l", "m"}
		}},
		{"a definition twice", func(f *api.FlatProg) { f.Nodes[2].N = 0 }}, {"a definition too few", func(f *api.FlatProg) { f.Defs = f.Defs[:2] }}, {"a definition too many", func(f *api.FlatProg) { f.Defs = append(f.Defs, api.ScopeDef{}) }},
		{"no such channel", func(f *api.FlatProg) { f.Defs[0].Rules[0].Joins[1] = 3 }}, {"no such channel", func(f *api.FlatProg) { f.Defs[0].Rules[0].Joins[1] = -1 }}, {"a channel twice", func(f *api.FlatProg) { f.Defs[0].Rules[0].Joins[1] = 0 }}, {"a rule elsewhere", func(f *api.FlatProg) { f.Defs[0].Rules[0].At = 1 }},
		{"too many values", func(f *api.FlatProg) { f.Defs[0].Chans[0].Many = 4 }}, {"a place in itself", func(f *api.FlatProg) { f.Defs[0].Spots[1].In = 2 }}, {"too many Args", func(f *api.FlatProg) { f.Nodes[4].Args = make([]api.ScopeExp, 4) }}, {"no Args", func(f *api.FlatProg) { f.Nodes[1].Args = nil }},
		{"an expression with a Kid", func(f *api.FlatProg) { f.Nodes[4].Args[0].Kids = []api.ScopeExp{{Op: api.TermInt}} }}, {"an expression of no kind", func(f *api.FlatProg) { f.Nodes[4].Args[0].Op = 8 }},
	}
}

// badly are changes after which the flat program of rich is not formed.
func badly() []change { return slices.Concat(badTakes(), badIndices(), badOthers()) }

func TestNotFormed(t *testing.T) {
	if s := showFlat(flatOf(t, bind(t, rich))); s != "[0 1]; 0 [0 1]; 1((8 _)); 2 [1 8 9]; 3 [0 1 2 5]!2; 4!3(1 0); 6!10(1); 7!11(); 8 [5 9]!0; 10 []; 11!1(0); 12!8(4); 14!4(0); 15 [6 7]!0; 16 [1]!0;"+
		" 18 [0 2 5]; 19 [0 1 2]!2; 20!1(_ 0); 21!8(); 24!2(_ 6); 26!3(); 27 [2 5]!1; 28!0(_ 1)" {
		t.Fatal(s)
	}
	for _, c := range badly() {
		f := flatOf(t, bind(t, rich))
		c.do(&f)
		if e := flat.Check(f); e != api.ErrArg || isFormed(f) {
			t.Error(c.what, e)
		}
		l, e1 := flat.Lists(f)
		p, e2 := flat.Open(f)
		n, e3 := flat.Spare(f)
		if e1 != api.ErrArg || e2 != api.ErrArg || e3 != api.ErrArg || l != nil || text(p) != text(api.ScopeProg{}) || n != 0 {
			t.Error(c.what, e1, e2, e3, l, text(p), n)
		}
	}
}

// TestFormed: what may be taken, and need not be.
func TestFormed(t *testing.T) {
	for _, c := range []change{
		{"all", func(f *api.FlatProg) {}},
		{"what stops takes something", func(f *api.FlatProg) { f.Nodes[10].Take = []int{0} }},
		{"what stops takes all", func(f *api.FlatProg) { f.Nodes[10].Take = []int{0, 1} }},
		{"the last node takes more", func(f *api.FlatProg) { f.Nodes[16].Take = []int{0, 1}; f.Nodes[16].N = 1 }},
		{"other names", func(f *api.FlatProg) { f.Nodes[4].N, f.Nodes[4].Args[0].N = 0, 3 }},
		{"another place", func(f *api.FlatProg) { f.Nodes[8].N = 1 }},
	} {
		f := flatOf(t, bind(t, rich))
		c.do(&f)
		if e := flat.Check(f); e != api.OK || !isFormed(f) {
			t.Error(c.what, e)
		}
	}
	// Of Free all may be taken, though nothing needs it.
	f := api.FlatProg{Free: []string{"a", "b"}, Take: []int{1}, Nodes: []api.FlatNode{{Op: api.TermStop, Take: []int{0}}}}
	if l, e := flat.Lists(f); e != api.OK || fmt.Sprint(l) != "[[1]]" {
		t.Error(l, e)
	}
	f.Nodes[0].Take = []int{1}
	if e := flat.Check(f); e != api.ErrArg {
		t.Error(e)
	}
}

// TestCheckByChance: flat programs made by chance, and with something changed.
func TestCheckByChance(t *testing.T) {
	formed, not := 0, 0
	flats(1, 1200, func(m *maker, p api.ScopeProg, f api.FlatProg) {
		if e := flat.Check(f); e != api.OK {
			t.Fatal(sample.Source(p), showFlat(f), e)
		}
		for range 4 {
			g := f
			for range 1 + m.IntN(2) {
				sample.Spoil(m.IntN, &g)
			}
			want := api.ErrArg
			if isFormed(g) {
				want = api.OK
				formed++
			} else {
				not++
			}
			if e := flat.Check(g); e != want {
				t.Fatal(sample.Source(p), text(g), e, want)
			}
		}
	})
	if formed < 400 || not < 1000 {
		t.Error(formed, not)
	}
}

func TestListsByChance(t *testing.T) {
	flats(2, 600, func(m *maker, p api.ScopeProg, f api.FlatProg) {
		l, e := flat.Lists(f)
		if e != api.OK || len(l) != len(f.Nodes) {
			t.Fatal(sample.Source(p), showFlat(f), l, e)
		}
		q := plainOf(f)
		for n := range l {
			if !slices.Equal(l[n], q.list(n)) {
				t.Fatal(sample.Source(p), showFlat(f), n, l[n], q.list(n))
			}
		}
	})
}
