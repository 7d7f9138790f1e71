package flat_test

import (
	"fmt"
	"reflect"
	"testing"

	"cabotage/api"
	"cabotage/flat"
	"cabotage/sample"
	"cabotage/show"
	"cabotage/sol"
)

// P0.12, and the rules R2 to R4 and R8

// all calls each function, and returns the results as text. It asks that there is
// nothing else with an error, and that each error is one that may be.
func all(t *testing.T, f api.FlatProg, p api.ScopeProg, s, full api.Sol, x api.SolStep, picks []int) string {
	t.Helper()
	out := ""
	check := func(what string, e api.Errno, errors []api.Errno, results ...any) {
		t.Helper()
		if e != api.OK {
			for _, r := range results {
				if !reflect.ValueOf(r).IsZero() {
					t.Fatal(what, e, r)
				}
			}
		}
		for _, other := range append(errors, api.OK, api.ErrArg) {
			if e == other {
				out += fmt.Sprint(what, e, text(results), "; ")
				return
			}
		}
		t.Fatal(what, e)
	}
	e := flat.Check(f)
	check("Check", e, nil)
	l, e := flat.Lists(f)
	check("Lists", e, nil, l)
	g, e := flat.Flat(p)
	check("Flat", e, nil, g)
	q, e := flat.Open(f)
	check("Open", e, nil, q)
	n, e := flat.Spare(f)
	check("Spare", e, nil, n)
	check("CheckSol", flat.CheckSol(f, s), nil)
	u, e := flat.Of(f, full)
	check("Of", e, nil, u)
	u, e = flat.Fill(f, s)
	check("Fill", e, nil, u)
	check("Held", api.OK, nil, flat.Held(s))
	u, said, e := flat.First(f)
	check("First", e, []api.Errno{api.ErrLong}, u, said)
	n, e = flat.Count(f, s)
	check("Count", e, nil, n)
	y, e := flat.Nth(f, s, len(picks))
	check("Nth", e, []api.Errno{api.ErrNone}, y)
	u, said, e = flat.Do(f, s, x)
	check("Do", e, []api.Errno{api.ErrNone, api.ErrLong}, u, said)
	u, said, e = flat.Run(f, s, picks)
	check("Run", e, []api.Errno{api.ErrLong}, u, said)
	return out
}

// TestSpoilt: what has some things changed by chance has results, or an error and
// nothing else, and the same ones twice.
func TestSpoilt(t *testing.T) {
	solutions(t, 12, 60, func(m *maker, f api.FlatProg, p api.ScopeProg, full api.Sol) {
		s := flattened(f, full)
		x := api.SolStep{Wait: -m.IntN(2)}
		if n, _ := sol.Count(p, full); n > 0 {
			x, _ = sol.Nth(p, full, m.IntN(n))
		}
		for _, a := range []any{&f, &p, &s, &full, &x} {
			if m.IntN(3) == 0 {
				sample.Spoil(m.IntN, a)
			}
		}
		picks := []int{m.IntN(9) - 1, m.IntN(9), m.IntN(9)}[:m.IntN(4)]
		if a, b := all(t, f, p, s, full, x, picks), all(t, f, p, s, full, x, picks); a != b {
			t.Fatal(a, b)
		}
	})
}

// TestAny: what is far from being formed.
func TestAny(t *testing.T) {
	f, s := richly(t)
	p := open(t, f)
	full, _ := flat.Fill(f, s)
	saying := func(e api.ScopeExp) api.FlatProg {
		return api.FlatProg{Free: []string{"x"}, Take: []int{0}, Nodes: []api.FlatNode{{Op: api.TermSend, Args: []api.ScopeExp{e}}}}
	}
	ring := []api.ScopeExp{{Op: api.TermInt}, {Op: api.TermInt}}
	ring[0] = api.ScopeExp{Op: api.TermAdd, Kids: ring} // it contains itself
	twice := api.ScopeExp{Op: api.TermName}             // 2^60 nodes that share memory
	for range 60 {
		twice = api.ScopeExp{Op: api.TermAdd, Kids: []api.ScopeExp{twice, twice}}
	}
	const n = 1 << 18
	long := flatOf(t, p)
	long.Nodes[3].Take = make([]int, n)
	for i := range n {
		long.Nodes[3].Take[i] = i
	}
	kids, defs := flatOf(t, p), flatOf(t, p)
	kids.Nodes[3].Kids = make([]int, n)
	defs.Defs[0].Chans = make([]api.ScopeChan, n)
	for i, g := range []api.FlatProg{
		{}, {Main: -1}, {Nodes: make([]api.FlatNode, n)}, {Defs: make([]api.ScopeDef, n)}, {Free: make([]string, n)}, {Take: make([]int, n)}, saying(ring[0]), saying(twice), saying(api.ScopeExp{Op: api.TermName, N: 1}), long, kids, defs,
	} {
		if e := flat.Check(g); e != api.ErrArg {
			t.Error(i, e)
		}
		if all(t, g, p, s, full, api.SolStep{}, nil) != all(t, g, p, s, full, api.SolStep{}, nil) {
			t.Error(i, "other results")
		}
	}
	for i, do := range []func(s *api.Sol){
		func(s *api.Sol) { s.Spots = make([]api.SolSpot, n) }, func(s *api.Sol) { s.Spots = append(s.Spots, make([]api.SolSpot, n)...) }, func(s *api.Sol) { s.Groups = make([]api.SolGroup, n) }, func(s *api.Sol) { s.Chans = make([]api.SolQ, n) }, func(s *api.Sol) { s.Waits = make([]api.SolWait, n) },
		func(s *api.Sol) { s.Groups[0].Env = make([]api.SolVal, n) }, func(s *api.Sol) { s.Chans[0].Queue = make([]api.SolMsg, n) }, func(s *api.Sol) { s.Chans[2].Queue[0].Vals = make([]api.SolVal, n) }, func(s *api.Sol) { s.Waits[0].Env = make([]api.SolVal, n) },
	} {
		u, filled := copied(s), copied(full)
		do(&u)
		do(&filled)
		if e := flat.CheckSol(f, u); e != api.ErrArg {
			t.Error(i, e)
		}
		if _, e := flat.Of(f, filled); e != api.ErrArg {
			t.Error(i, e)
		}
		if all(t, f, p, u, filled, api.SolStep{}, nil) != all(t, f, p, u, filled, api.SolStep{}, nil) {
			t.Error(i, "other results")
		}
	}
	if e := flat.CheckSol(f, api.Sol{Groups: make([]api.SolGroup, n), Waits: make([]api.SolWait, n)}); e != api.ErrArg {
		t.Error(e)
	}
}

func TestMemory(t *testing.T) {
	solutions(t, 13, 30, func(m *maker, f api.FlatProg, p api.ScopeProg, full api.Sol) {
		f, p, s := copied(f), copied(p), flattened(f, full)
		picks := []int{m.IntN(20), m.IntN(20), m.IntN(20)}
		x, _ := flat.Nth(f, s, 0)
		before := show.Sol(s) + text(f) + text(p) + show.Sol(full) + show.Step(x) + fmt.Sprint(picks)
		l, _ := flat.Lists(f)
		g, _ := flat.Flat(p)
		q, _ := flat.Open(f)
		s1, _ := flat.Of(f, full)
		s2, _ := flat.Fill(f, s)
		s3, l3, _ := flat.First(f)
		x4, _ := flat.Nth(f, s, 0)
		s5, l5, _ := flat.Do(f, s, x)
		s6, l6, _ := flat.Run(f, s, picks)
		s7, l7, _ := flat.Run(f, s, nil)
		if !sample.Apart(&f, &p, &s, &full, &x, &picks, &l, &g, &q, &s1, &s2, &s3, &l3, &x4, &s5, &l5, &s6, &l6, &s7, &l7) {
			t.Fatal(sample.Source(p), "memory is shared")
		}
		if before != show.Sol(s)+text(f)+text(p)+show.Sol(full)+show.Step(x)+fmt.Sprint(picks) {
			t.Fatal(sample.Source(p), "an argument changed")
		}
	})
}
