package sol_test

import (
	"math"
	"slices"
	"testing"

	"cabotage/api"
	"cabotage/show"
	"cabotage/sol"
)

// P6.1

// rich has each kind of processes that wait, places in places, a dead place, two
// groups, and messages that bring each kind of values, once the steps of richly are
// done.
const rich = "def x(a, b) = (def w(c) & v() = 0 in w(a)) | watch b; 0" +
	" and place p { z(k) = 0 and place q { in stop | go r; 0 } in z(out) | z(q) | z(z) } and place r { in 0 } and place d { u() = 0 in stop }" +
	" in x(7, d) | x(x, p) | go p; 0"

func richly(t *testing.T) (api.ScopeProg, api.Sol) {
	t.Helper()
	p := bind(t, rich)
	return p, after(t, p, 2, 2)
}

func TestRich(t *testing.T) {
	_, s := richly(t)
	const env = "f0 c0 c1 c2 p1 p2 p3 p4"
	want := "-1 0 1 0 0x" +
		" | 0@0(" + env + ") 1@0(" + env + " 7 p4 c3 c4)" +
		" | 0.0@0[(c0 p1)] 0.1@1[(f0)(p2)(c1)] 0.2@4[] 1.0@0[(7)] 1.1@0[]" +
		" | 15@2(" + env + ") 16@2(" + env + ") 24@0(" + env + ") 5@0(" + env + " 7 p4)"
	if show.Sol(s) != want {
		t.Error(show.Sol(s))
	}
}

// change is a change to a solution.
type change struct {
	what string
	do   func(s *api.Sol)
}

// badVals are changes that put what is no value into each list of values.
func badVals() []change {
	var l []change
	lists := map[string]func(s *api.Sol) []api.SolVal{
		"Env of a group":      func(s *api.Sol) []api.SolVal { return s.Groups[0].Env },
		"Env of a last group": func(s *api.Sol) []api.SolVal { return s.Groups[1].Env[8:] },
		"message":             func(s *api.Sol) []api.SolVal { return s.Chans[0].Queue[0].Vals[1:] },
		"last message":        func(s *api.Sol) []api.SolVal { return s.Chans[1].Queue[2].Vals },
		"Env of a wait":       func(s *api.Sol) []api.SolVal { return s.Waits[0].Env },
		"Env of a last wait":  func(s *api.Sol) []api.SolVal { return s.Waits[3].Env[9:] },
	}
	for what, in := range lists {
		for _, v := range []api.SolVal{
			{}, {Kind: -1}, {Kind: 5}, {Kind: math.MaxInt}, {Kind: api.SolInt, N: 1000000001}, {Kind: api.SolInt, N: -1000000001}, {Kind: api.SolInt, N: math.MinInt},
			{Kind: api.SolFree, N: -1}, {Kind: api.SolFree, N: 1}, {Kind: api.SolChan, N: -1}, {Kind: api.SolChan, N: 5}, {Kind: api.SolPlace, N: -1}, {Kind: api.SolPlace, N: 5}, {Kind: api.SolPlace, N: math.MaxInt},
		} {
			l = append(l, change{what + " " + show.Val(v), func(s *api.Sol) { in(s)[0] = v }})
		}
	}
	return l
}

func badPlaces() []change {
	in := func(i, n int) change { return change{"In", func(s *api.Sol) { s.Spots[i].In = n }} }
	return []change{
		in(0, 0), in(0, 1), in(0, -2), in(0, 5), in(1, 1), in(1, 2), in(1, -1), in(1, 5), in(2, 2), in(3, -1), in(4, 4), in(4, math.MaxInt), in(4, math.MinInt),
		{"a ring of two", func(s *api.Sol) { s.Spots[3].In, s.Spots[4].In = 4, 3 }}, {"a ring behind", func(s *api.Sol) { s.Spots[1].In = 2 }},
		{"only the first one dead", func(s *api.Sol) { s.Spots[0].Dead = true }}, {"only an outer one dead", func(s *api.Sol) { s.Spots[1].Dead, s.Chans[1].Queue = true, nil }},
		{"a place in a dead one", func(s *api.Sol) { s.Spots[3].In = 4 }}, {"dead with processes that wait", func(s *api.Sol) { s.Spots[2].Dead = true }}, {"dead with messages", func(s *api.Sol) { s.Spots[1].Dead, s.Spots[2].Dead, s.Waits = true, true, s.Waits[2:] }},
		{"no places", func(s *api.Sol) { s.Spots = nil }}, {"a place too few", func(s *api.Sol) { s.Spots = s.Spots[:4] }}, {"a place too many", func(s *api.Sol) { s.Spots = append(s.Spots, api.SolSpot{}) }},
	}
}

func badGroups() []change {
	group := func(what string, i int, do func(g *api.SolGroup)) change {
		return change{"group: " + what, func(s *api.Sol) { do(&s.Groups[i]) }}
	}
	own := func(n int, v api.SolVal) change {
		return group("own "+show.Val(v), 0, func(g *api.SolGroup) { g.Env[n] = v })
	}
	return []change{
		group("Def -1", 0, func(g *api.SolGroup) { g.Def = -1 }), group("Def 2", 1, func(g *api.SolGroup) { g.Def = 2 }), group("another Def", 1, func(g *api.SolGroup) { g.Def = 0 }), group("another Def", 0, func(g *api.SolGroup) { g.Def = 1 }),
		group("At -1", 1, func(g *api.SolGroup) { g.At = -1 }), group("At 5", 1, func(g *api.SolGroup) { g.At = 5 }), group("another At", 1, func(g *api.SolGroup) { g.At = 1 }), group("another At", 0, func(g *api.SolGroup) { g.At = 3 }),
		group("no Env", 0, func(g *api.SolGroup) { g.Env = nil }), group("Env too short", 0, func(g *api.SolGroup) { g.Env = g.Env[1:] }), group("Env too short", 1, func(g *api.SolGroup) { g.Env = g.Env[:11] }), group("Env too long", 1, func(g *api.SolGroup) { g.Env = append(integers(1), g.Env...) }),
		own(1, api.SolVal{Kind: api.SolChan, N: 1}), own(3, api.SolVal{Kind: api.SolChan, N: 3}), own(2, api.SolVal{Kind: api.SolPlace, N: 1}), own(1, api.SolVal{Kind: api.SolInt}),
		own(4, api.SolVal{Kind: api.SolPlace, N: 2}), own(7, api.SolVal{Kind: api.SolPlace, N: 0}), own(5, api.SolVal{Kind: api.SolChan, N: 2}), own(6, api.SolVal{Kind: api.SolFree, N: 0}),
		{"own exchanged", func(s *api.Sol) { l := s.Groups[0].Env; l[1], l[2] = l[2], l[1] }}, {"places exchanged", func(s *api.Sol) { l := s.Groups[0].Env; l[6], l[7] = l[7], l[6] }}, {"own of another", func(s *api.Sol) { s.Groups[1].Env[10].N = 0 }},
		{"groups exchanged", func(s *api.Sol) { slices.Reverse(s.Groups) }}, {"a group too few", func(s *api.Sol) { s.Groups = s.Groups[:1] }}, {"the first group too few", func(s *api.Sol) { s.Groups = s.Groups[1:] }}, {"no groups", func(s *api.Sol) { s.Groups = nil }},
		{"a group twice", func(s *api.Sol) { s.Groups = append(s.Groups, s.Groups[1]) }}, {"one more group", func(s *api.Sol) {
			g := copied(s.Groups[1])
			g.Env[10].N, g.Env[11].N = 5, 6
			s.Groups = append(s.Groups, g)
		}},
	}
}

func badChans() []change {
	channel := func(what string, i int, do func(q *api.SolQ)) change {
		return change{"channel: " + what, func(s *api.Sol) { do(&s.Chans[i]) }}
	}
	return []change{
		channel("Group -1", 0, func(q *api.SolQ) { q.Group = -1 }), channel("Group 2", 3, func(q *api.SolQ) { q.Group = 2 }), channel("another Group", 3, func(q *api.SolQ) { q.Group = 0 }), channel("another Group", 0, func(q *api.SolQ) { q.Group = 1 }),
		channel("Index -1", 0, func(q *api.SolQ) { q.Index = -1 }), channel("Index 3", 2, func(q *api.SolQ) { q.Index = 3 }), channel("Index 1", 3, func(q *api.SolQ) { q.Index = 1 }), channel("Index 0", 1, func(q *api.SolQ) { q.Index = 0 }),
		channel("At 1", 0, func(q *api.SolQ) { q.At = 1 }), channel("At 0", 1, func(q *api.SolQ) { q.At = 0 }), channel("At 2", 1, func(q *api.SolQ) { q.At = 2 }), channel("At -1", 3, func(q *api.SolQ) { q.At = -1 }), channel("At 5", 4, func(q *api.SolQ) { q.At = 5 }),
		channel("no values", 0, func(q *api.SolQ) { q.Queue[0].Vals = nil }), channel("a value too few", 0, func(q *api.SolQ) { q.Queue[0].Vals = q.Queue[0].Vals[:1] }), channel("a value too many", 1, func(q *api.SolQ) { q.Queue[2].Vals = append(q.Queue[2].Vals, integers(1)...) }), channel("a value where none is", 4, func(q *api.SolQ) { q.Queue = []api.SolMsg{{}, {Vals: integers(1)}} }),
		channel("too many messages", 4, func(q *api.SolQ) { q.Queue = make([]api.SolMsg, 13) }), channel("a message in a dead place", 2, func(q *api.SolQ) { q.Queue = make([]api.SolMsg, 1) }),
		{"channels exchanged", func(s *api.Sol) { s.Chans[3], s.Chans[4] = s.Chans[4], s.Chans[3] }}, {"a channel too few", func(s *api.Sol) { s.Chans = s.Chans[:4] }}, {"no channels", func(s *api.Sol) { s.Chans = nil }},
		{"a channel too many", func(s *api.Sol) { s.Chans = append(s.Chans, api.SolQ{}) }}, {"a channel twice", func(s *api.Sol) { s.Chans = append(s.Chans, s.Chans[4]) }},
	}
}

func badWaits() []change {
	var l []change
	wait := func(what string, i int, do func(w *api.SolWait)) {
		l = append(l, change{"wait: " + what, func(s *api.Sol) { do(&s.Waits[i]) }})
	}
	for _, n := range []int{-1, 5, 4, math.MaxInt} {
		wait("At", 2, func(w *api.SolWait) { w.At = n })
	}
	for _, n := range []int{-1, 26, 0, 1, 2, 17, 20, 21, math.MinInt, 5} { // of the TermWatch 5 the environment is larger
		wait("Node", 2, func(w *api.SolWait) { w.Node = n })
	}
	wait("another Node", 3, func(w *api.SolWait) { w.Node = 24 })
	wait("no Env", 0, func(w *api.SolWait) { w.Env = nil })
	wait("Env too short", 1, func(w *api.SolWait) { w.Env = w.Env[:7] })
	wait("Env too long", 3, func(w *api.SolWait) { w.Env = append(w.Env, integers(1)...) })
	return append(l, change{"too many", func(s *api.Sol) { s.Waits = slices.Repeat(s.Waits[:1], 41) }})
}

// badly are changes after which the solution of rich is not formed.
func badly() []change {
	return slices.Concat(badVals(), badPlaces(), badGroups(), badChans(), badWaits())
}

func TestNotFormed(t *testing.T) {
	for _, c := range badly() {
		p, s := richly(t)
		c.do(&s)
		if e := sol.Check(p, s); e != api.ErrArg || newPlain(p).isFormed(s) {
			t.Error(c.what, e, show.Sol(s))
		}
	}
}

// TestFormed: solutions that are formed, though no run may have them.
func TestFormed(t *testing.T) {
	for _, c := range []change{
		{"as it is", func(s *api.Sol) {}},
		{"places elsewhere", func(s *api.Sol) { s.Spots[1].In, s.Spots[3].In = 3, 0 }},
		{"another order of places", func(s *api.Sol) { s.Spots[1].In, s.Spots[2].In = 2, 3 }},
		{"a dead place within", func(s *api.Sol) { s.Spots[4].In = 2 }},
		{"a dead place in a dead one", func(s *api.Sol) { s.Spots[3] = api.SolSpot{In: 4, Dead: true} }},
		{"none is dead", func(s *api.Sol) { s.Spots[4].Dead = false }},
		{"a message that nobody sent", func(s *api.Sol) { s.Spots[4].Dead, s.Chans[2].Queue = false, make([]api.SolMsg, 12) }},
		{"all are dead", func(s *api.Sol) {
			s.Waits = nil
			for i := range s.Spots {
				s.Spots[i].Dead = true
			}
			for i := range s.Chans {
				s.Chans[i].Queue = nil
			}
		}},
		{"a group elsewhere", func(s *api.Sol) { s.Groups[1].At, s.Chans[3].At, s.Chans[4].At = 2, 2, 2 }},
		{"a group in its own place", func(s *api.Sol) { s.Groups[0].At, s.Chans[0].At = 1, 1 }},
		{"a group in a dead place", func(s *api.Sol) { s.Groups[1].At, s.Chans[3] = 4, api.SolQ{Group: 1, At: 4}; s.Chans[4].At = 4 }},
		{"other values", func(s *api.Sol) {
			s.Groups[1].Env[0] = api.SolVal{Kind: api.SolPlace, N: 4}
			s.Waits[0].Env[1] = api.SolVal{Kind: api.SolChan, N: 4}
			s.Chans[0].Queue[0].Vals = integers(-1000000000, 1000000000)
		}},
		{"other processes that wait", func(s *api.Sol) { s.Waits = slices.Repeat(s.Waits[3:], 40) }},
		{"another one elsewhere", func(s *api.Sol) { s.Waits[0].At, s.Waits[0].Node, s.Waits[2].Node = 3, 24, 15 }},
		{"no processes that wait", func(s *api.Sol) { s.Waits = nil }},
		{"as many messages as can be", func(s *api.Sol) { s.Chans[0].Queue = slices.Repeat(s.Chans[0].Queue, 12) }},
		{"empty lists", func(s *api.Sol) { s.Chans[2].Queue, s.Waits = []api.SolMsg{}, []api.SolWait{} }},
	} {
		p, s := richly(t)
		c.do(&s)
		if e := sol.Check(p, s); e != api.OK || !newPlain(p).isFormed(s) {
			t.Error(c.what, e, show.Sol(s))
		}
	}
}

// TestAlone: the place 0 alone is a solution of each program.
func TestAlone(t *testing.T) {
	for _, source := range []string{"0", example, rich} {
		p := bind(t, source)
		if e := sol.Check(p, api.Sol{Spots: []api.SolSpot{{In: -1}}}); e != api.OK {
			t.Error(source, e)
		}
		if e := sol.Check(p, api.Sol{Spots: []api.SolSpot{{In: -1, Dead: true}}}); e != api.OK {
			t.Error(source, e)
		}
		for i, s := range []api.Sol{{}, {Spots: make([]api.SolSpot, 1)}, {Spots: []api.SolSpot{{In: -1}, {}}}, {Spots: []api.SolSpot{{In: -1}, {In: -1}}}} {
			if e := sol.Check(p, s); e != api.ErrArg {
				t.Error(source, i, e)
			}
		}
	}
}

// TestProgramNotFormed: a solution is formed for some programs only.
func TestProgramNotFormed(t *testing.T) {
	p, s := richly(t)
	for i, do := range []func(p *api.ScopeProg){
		func(p *api.ScopeProg) { p.Main = 1 }, func(p *api.ScopeProg) { p.Nodes[16].N = 8 }, func(p *api.ScopeProg) { p.Free = nil }, func(p *api.ScopeProg) { p.Free[0] = "in" },
		func(p *api.ScopeProg) { p.Defs = p.Defs[:1] }, func(p *api.ScopeProg) { p.Nodes = nil }, func(p *api.ScopeProg) { p.Nodes[4].Args[0].Op = 0 },
	} {
		q := copied(p)
		do(&q)
		if e := sol.Check(q, s); e != api.ErrArg {
			t.Error(i, e)
		}
	}
	if e := sol.Check(bind(t, example), s); e != api.ErrArg {
		t.Error(e)
	}
	if e := sol.Check(api.ScopeProg{}, api.Sol{}); e != api.ErrArg {
		t.Error(e)
	}
}

func TestCheckByChance(t *testing.T) {
	changed, is := 0, 0
	solutions(1, 700, func(m *maker, p api.ScopeProg, s api.Sol) {
		q := newPlain(p)
		if e := sol.Check(p, s); e != api.OK || !q.isFormed(s) {
			t.Fatal(source(p), show.Sol(s), e)
		}
		for range 4 {
			u := copied(s)
			for range 1 + m.IntN(2) {
				m.spoil(&u)
			}
			want := q.isFormed(u)
			if e := sol.Check(p, u); (e == api.OK) != want || e != api.OK && e != api.ErrArg {
				t.Fatal(source(p), show.Sol(u), e)
			}
			changed++
			if want {
				is++
			}
		}
	})
	if changed < 10000 || is < 1000 || changed-is < 5000 {
		t.Error(changed, is)
	}
}
