package flat_test

import (
	"math"
	"slices"
	"testing"

	"cabotage/api"
	"cabotage/flat"
	"cabotage/sample"
	"cabotage/show"
	"cabotage/sol"
)

// P7.3

func TestHeld(t *testing.T) {
	for _, c := range []struct {
		f          api.FlatProg
		flat, full string
		held, all  int
	}{
		{flatOf(t, bind(t, example)), "-1 0 | 0@0(f1 c0 c1 p1) | 0.0@0[] 0.1@0[] | 2@1() 3@0(f0 c0 p1)", "-1 0 | 0@0(0 f1 c0 c1 p1) | 0.0@0[] 0.1@0[] | 2@1(0 0 0 0 0) 3@0(f0 0 c0 0 p1)", 7, 15},
		{loose(t), "-1 0 | 0@0(f0 f1 c0 c1 p1) | 0.0@0[] 0.1@0[] | 2@1(c0) 3@0(f0 c0 p1)", "-1 0 | 0@0(f0 f1 c0 c1 p1) | 0.0@0[] 0.1@0[] | 2@1(0 0 c0 0 0) 3@0(f0 0 c0 0 p1)", 9, 15},
	} {
		s := first(t, c.f)
		if show.Sol(s) != c.flat || flat.Held(s) != c.held {
			t.Error(show.Sol(s), flat.Held(s))
		}
		full, e := flat.Fill(c.f, s)
		if e != api.OK || show.Sol(full) != c.full || flat.Held(full) != c.all {
			t.Error(show.Sol(full), flat.Held(full), e)
		}
		// What it was before it was made flat need not be what is filled.
		before, _, _ := sol.First(open(t, c.f))
		for _, u := range []api.Sol{full, before} {
			if u, e := flat.Of(c.f, u); e != api.OK || show.Sol(u) != c.flat {
				t.Error(show.Sol(u), e)
			}
		}
	}
	// Held asks nothing of a solution.
	env := make([]api.SolVal, 3)
	if n := flat.Held(api.Sol{Groups: []api.SolGroup{{Def: -1, Env: env[:1]}, {}}, Waits: []api.SolWait{{}, {Env: env}}, Chans: []api.SolQ{{Queue: []api.SolMsg{{Vals: env}}}}}); n != 4 {
		t.Error(n)
	}
	if n := flat.Held(api.Sol{}); n != 0 {
		t.Error(n)
	}
}

// spoiling is a change to a flat solution.
type spoiling struct {
	what string
	do   func(s *api.Sol)
}

// richly is a flat solution of rich that has three groups, the last two of which take
// other things, processes that wait of each kind, and messages.
func richly(t *testing.T) (api.FlatProg, api.Sol) {
	t.Helper()
	f := flatOf(t, bind(t, rich))
	return f, after(t, f, 0, 1)
}

func TestRich(t *testing.T) {
	f, s := richly(t)
	const want = "-1 0 1 0 | 0@0(f0 f1 c0 c1 c2 p1 p2 p3) 2@2(f0 c0 p1 c3) 1@0(f1 0 p2 c4 c5) | 0.0@0[] 0.1@0[] 0.2@1[(f0)] 1.0@2[] 2.0@0[(f1)] 2.1@0[()]" +
		" | 15@1(p2 p3) 27@0(c0 p1) 19@2(f0 c0 p1)"
	if show.Sol(s) != want || flat.CheckSol(f, s) != api.OK {
		t.Fatal(show.Sol(s))
	}
	if s, e := flat.Fill(f, s); e != api.OK || show.Sol(s) != "-1 0 1 0 | 0@0(f0 f1 c0 c1 c2 p1 p2 p3) 2@2(f0 0 c0 0 0 p1 0 0 c3) 1@0(0 f1 0 0 0 0 0 0 0 p2 c4 c5) | 0.0@0[] 0.1@0[] 0.2@1[(f0)] 1.0@2[] 2.0@0[(f1)] 2.1@0[()]"+
		" | 15@1(0 0 0 0 0 0 p2 p3) 27@0(0 0 c0 0 0 p1 0 0) 19@2(f0 0 c0 0 0 p1 0 0 0)" {
		t.Error(show.Sol(s), e)
	}
}

// spoilings are changes after which the flat solution of rich is not formed.
func spoilings() []spoiling {
	group := func(what string, i int, do func(g *api.SolGroup)) spoiling {
		return spoiling{"group: " + what, func(s *api.Sol) { do(&s.Groups[i]) }}
	}
	wait := func(what string, i int, do func(w *api.SolWait)) spoiling {
		return spoiling{"wait: " + what, func(s *api.Sol) { do(&s.Waits[i]) }}
	}
	channel := func(what string, i int, do func(q *api.SolQ)) spoiling {
		return spoiling{"channel: " + what, func(s *api.Sol) { do(&s.Chans[i]) }}
	}
	l := []spoiling{
		{"nothing", func(s *api.Sol) { *s = api.Sol{} }}, {"no places", func(s *api.Sol) { s.Spots = nil }}, {"a ring", func(s *api.Sol) { s.Spots[1].In = 2 }}, {"a dead one around", func(s *api.Sol) { s.Spots[0].Dead = true }}, {"a place too many", func(s *api.Sol) { s.Spots = append(s.Spots, api.SolSpot{}) }},
		{"a group too few", func(s *api.Sol) { s.Groups = s.Groups[:2] }}, {"a group too many", func(s *api.Sol) { s.Groups = append(s.Groups, s.Groups[2]) }}, {"groups exchanged", func(s *api.Sol) { slices.Reverse(s.Groups) }}, {"too many groups", func(s *api.Sol) { s.Groups = slices.Repeat(s.Groups, 14) }},
		group("Def -1", 0, func(g *api.SolGroup) { g.Def = -1 }), group("Def 3", 2, func(g *api.SolGroup) { g.Def = 3 }), group("another Def", 1, func(g *api.SolGroup) { g.Def = 1 }), group("another Def", 2, func(g *api.SolGroup) { g.Def = 2 }),
		group("At 4", 1, func(g *api.SolGroup) { g.At = 4 }), group("At -1", 1, func(g *api.SolGroup) { g.At = -1 }),
		group("Env too long", 0, func(g *api.SolGroup) { g.Env = append(make([]api.SolVal, 0), append(g.Env, g.Env[7])...) }), group("Env too short", 0, func(g *api.SolGroup) { g.Env = g.Env[1:] }), group("no Env", 0, func(g *api.SolGroup) { g.Env = nil }),
		group("Env too short", 1, func(g *api.SolGroup) { g.Env = g.Env[1:] }), group("Env filled", 1, func(g *api.SolGroup) {
			g.Env = slices.Concat(g.Env[:1], slices.Repeat([]api.SolVal{{Kind: api.SolInt}}, 5), g.Env[1:])
		}), group("another own", 2, func(g *api.SolGroup) { g.Env[3].N = 5 }), group("no own", 2, func(g *api.SolGroup) { g.Env[4].Kind = api.SolPlace }),
		wait("no Env", 0, func(w *api.SolWait) { w.Env = nil }), wait("Env too short", 1, func(w *api.SolWait) { w.Env = w.Env[:1] }), wait("Env too long", 1, func(w *api.SolWait) { w.Env = slices.Repeat(w.Env, 2) }), wait("Env filled", 1, func(w *api.SolWait) { w.Env = slices.Repeat(w.Env, 4) }),
		wait("At 4", 0, func(w *api.SolWait) { w.At = 4 }), wait("At -1", 0, func(w *api.SolWait) { w.At = -1 }),
		{"too many waits", func(s *api.Sol) { s.Waits = slices.Repeat(s.Waits, 14) }}, {"dead with a wait", func(s *api.Sol) {
			s.Spots[1].Dead, s.Spots[2].Dead, s.Chans[2].Queue, s.Chans[3].Queue = true, true, nil, nil
		}},
		channel("another Group", 3, func(q *api.SolQ) { q.Group = 0 }), channel("another Index", 4, func(q *api.SolQ) { q.Index = 1 }), channel("another At", 2, func(q *api.SolQ) { q.At = 0 }), channel("a value too many", 5, func(q *api.SolQ) { q.Queue[0].Vals = make([]api.SolVal, 1) }), channel("no value", 2, func(q *api.SolQ) { q.Queue[0].Vals[0].N = 2 }),
		{"too many messages", func(s *api.Sol) { s.Chans[5].Queue = make([]api.SolMsg, 13) }}, {"a channel too few", func(s *api.Sol) { s.Chans = s.Chans[:5] }},
	}
	for _, n := range []int{-1, 29, math.MaxInt, 0, 1, 2, 5, 3, 19, 16, 10} {
		l = append(l, wait("another Node", 0, func(w *api.SolWait) { w.Node = n }))
	}
	for _, v := range []api.SolVal{{}, {Kind: 5}, {Kind: api.SolInt, N: 1000000001}, {Kind: api.SolFree, N: 2}, {Kind: api.SolFree, N: -1}, {Kind: api.SolChan, N: 6}, {Kind: api.SolPlace, N: 4}} {
		l = append(l, group(show.Val(v), 1, func(g *api.SolGroup) { g.Env[0] = v }), wait(show.Val(v), 1, func(w *api.SolWait) { w.Env[1] = v }))
	}
	return l
}

func TestCheckSol(t *testing.T) {
	for _, c := range spoilings() {
		f, s := richly(t)
		s = copied(s)
		c.do(&s)
		if e := flat.CheckSol(f, s); e != api.ErrArg || isFormedSol(f, s) {
			t.Error(c.what, e)
		}
		u, e := flat.Fill(f, s)
		if e != api.ErrArg || !nothing(u, nil) {
			t.Error(c.what, show.Sol(u), e)
		}
	}
	for _, c := range badly() {
		f, s := richly(t)
		c.do(&f)
		if e := flat.CheckSol(f, s); e != api.ErrArg {
			t.Error(c.what, e)
		}
		for _, g := range []func(api.FlatProg, api.Sol) (api.Sol, api.Errno){flat.Fill, flat.Of} {
			if u, e := g(f, s); e != api.ErrArg || !nothing(u, nil) {
				t.Error(c.what, show.Sol(u), e)
			}
		}
	}
}

// TestOfNotFormed: the solution is to be one of what is opened; a flat one is none.
func TestOfNotFormed(t *testing.T) {
	f, s := richly(t)
	full, _ := flat.Fill(f, s)
	dead := copied(full)
	dead.Spots[1].Dead = true
	for _, u := range []api.Sol{s, {}, dead} {
		if u, e := flat.Of(f, u); e != api.ErrArg || !nothing(u, nil) {
			t.Error(show.Sol(u), e)
		}
	}
	if e := flat.CheckSol(f, full); e != api.ErrArg {
		t.Error(e)
	}
}

// TestFormedSols: flat solutions that no run may have.
func TestFormedSols(t *testing.T) {
	for _, c := range []spoiling{
		{"other values", func(s *api.Sol) {
			s.Groups[2].Env[0], s.Waits[1].Env[0] = api.SolVal{Kind: api.SolInt, N: 9}, api.SolVal{Kind: api.SolPlace}
		}},
		{"what is held of a dead place", func(s *api.Sol) { s.Spots[3].Dead = true }},
		{"no waits", func(s *api.Sol) { s.Waits = nil }}, {"a wait again", func(s *api.Sol) { s.Waits = slices.Repeat(s.Waits, 13) }},
		{"a wait that holds nothing", func(s *api.Sol) { s.Waits[0].Node, s.Waits[0].Env = 10, nil }},
		{"a place elsewhere", func(s *api.Sol) { s.Spots[2].In = 3 }}, {"a group elsewhere", func(s *api.Sol) { s.Groups[1].At, s.Chans[3].At = 3, 3 }},
	} {
		f, s := richly(t)
		s = copied(s)
		c.do(&s)
		if e := flat.CheckSol(f, s); e != api.OK || !isFormedSol(f, s) {
			t.Error(c.what, show.Sol(s), e)
		}
	}
}

func TestSolsByChance(t *testing.T) {
	less := 0
	solutions(t, 6, 150, func(m *maker, f api.FlatProg, p api.ScopeProg, s api.Sol) {
		u, e := flat.Of(f, s)
		if e != api.OK || show.Sol(u) != show.Sol(flattened(f, s)) || flat.CheckSol(f, u) != api.OK {
			t.Fatal(sample.Source(p), showFlat(f), show.Sol(s), show.Sol(u), e)
		}
		full, e := flat.Fill(f, u)
		if e != api.OK || show.Sol(full) != show.Sol(filled(f, u)) {
			t.Fatal(sample.Source(p), showFlat(f), show.Sol(u), show.Sol(full), e)
		}
		if w, e := flat.Of(f, full); e != api.OK || show.Sol(w) != show.Sol(u) {
			t.Fatal(sample.Source(p), showFlat(f), show.Sol(u), show.Sol(w), e)
		}
		held := 0
		for _, g := range s.Groups {
			held += len(g.Env)
		}
		for _, w := range s.Waits {
			held += len(w.Env)
		}
		if flat.Held(s) != held || flat.Held(full) != held || flat.Held(u) > held {
			t.Fatal(sample.Source(p), show.Sol(u), flat.Held(s), flat.Held(full), flat.Held(u), held)
		}
		if flat.Held(u) < held {
			less++
		}
	})
	if less < 300 {
		t.Error("only", less)
	}
}

func TestCheckSolByChance(t *testing.T) {
	formed, not := 0, 0
	solutions(t, 7, 100, func(m *maker, f api.FlatProg, p api.ScopeProg, s api.Sol) {
		u, _ := flat.Of(f, s)
		for range 1 + m.IntN(2) {
			sample.Spoil(m.IntN, &u)
		}
		want := api.ErrArg
		if isFormedSol(f, u) {
			want = api.OK
			formed++
		} else {
			not++
		}
		if e := flat.CheckSol(f, u); e != want {
			t.Fatal(sample.Source(p), showFlat(f), show.Sol(u), e, want)
		}
	})
	if formed < 100 || not < 300 {
		t.Error(formed, not)
	}
}
