package sol_test

import (
	"fmt"
	"reflect"
	"slices"
	"testing"

	"cabotage/api"
	"cabotage/sample"
	"cabotage/show"
	"cabotage/sol"
)

// P0.12, and the rules R2 to R4 and R8

// all calls each function, and returns the results as text. It asks that there is
// nothing else with an error.
func all(t *testing.T, p api.ScopeProg, s api.Sol, x api.SolStep, picks []int) string {
	t.Helper()
	zero := show.Sol(api.Sol{})
	e0 := sol.Check(p, s)
	s1, l1, e1 := sol.First(p)
	n2, e2 := sol.Count(p, s)
	x3, e3 := sol.Nth(p, s, len(picks))
	s4, l4, e4 := sol.Do(p, s, x)
	s5, l5, e5 := sol.Run(p, s, picks)
	l6, e6 := sol.Within(s, len(picks))
	if e1 != api.OK && (show.Sol(s1) != zero || l1 != nil) || e2 != api.OK && n2 != 0 || e3 != api.OK && !reflect.DeepEqual(x3, api.SolStep{}) || e4 != api.OK && (show.Sol(s4) != zero || l4 != nil) || e5 != api.OK && (show.Sol(s5) != zero || l5 != nil) || e6 != api.OK && l6 != nil {
		t.Fatal(source(p), show.Sol(s), e1, e2, e3, e4, e5, e6)
	}
	if e0 != api.OK && (e0 != api.ErrArg || e2 != e0 || e3 != e0 || e4 != e0 || e5 != e0) || e0 == api.OK && (e2 != api.OK || e3 == api.ErrArg || e4 == api.ErrArg || e5 == api.ErrArg || e5 == api.ErrNone) {
		t.Fatal(source(p), show.Sol(s), e0, e2, e3, e4, e5)
	}
	return fmt.Sprint(e0, show.Sol(s1), show.Events(l1), e1, n2, e2, show.Step(x3), e3, show.Sol(s4), show.Events(l4), e4, show.Sol(s5), show.Events(l5), e5, l6, e6)
}

// TestSpoilt: programs, solutions and steps with some things changed by chance have
// results, or an error and nothing else, and the same ones twice.
func TestSpoilt(t *testing.T) {
	solutions(10, 250, func(m *maker, p api.ScopeProg, s api.Sol) {
		for range 3 {
			q, u, x := copied(p), copied(s), api.SolStep{Wait: -m.IntN(2)}
			if l := steps(t, p, s); len(l) > 0 {
				x = l[m.IntN(len(l))]
			}
			for _, a := range []any{&q, &u, &x} {
				if m.IntN(3) == 0 {
					m.spoil(a)
				}
			}
			picks := []int{m.IntN(9) - 1, m.IntN(9), m.IntN(9)}[:m.IntN(4)]
			if a, b := all(t, q, u, x, picks), all(t, q, u, x, picks); a != b {
				t.Fatal(source(q), show.Sol(u), a, b)
			}
		}
	})
}

// TestAny: what is far from being formed.
func TestAny(t *testing.T) {
	p, s := richly(t)
	saying := func(e api.ScopeExp) api.ScopeProg {
		return api.ScopeProg{Free: []string{"x"}, Nodes: []api.ScopeNode{{Op: api.TermSend, Args: []api.ScopeExp{e}}}}
	}
	ring := []api.ScopeExp{num(1), num(1)}
	ring[0] = exp(api.TermAdd, ring...)
	ring[0].Kids = ring // it contains itself
	for i, q := range []api.ScopeProg{{}, {Main: -1}, {Nodes: make([]api.ScopeNode, 1<<20)}, {Nodes: []api.ScopeNode{node(api.TermPar, 0, 0, 0)}}, {Nodes: []api.ScopeNode{node(api.TermDef, 0, 0)}, Defs: []api.ScopeDef{{}}}, saying(ring[0]), saying(name(1))} {
		if _, _, e := sol.First(q); e != api.ErrArg {
			t.Error(i, e)
		}
		if sol.Check(q, s) != api.ErrArg || all(t, q, s, api.SolStep{}, nil) != all(t, q, s, api.SolStep{}, nil) {
			t.Error(i, sol.Check(q, s))
		}
	}
	const n = 1 << 18
	for i, do := range []func(s *api.Sol){
		func(s *api.Sol) { s.Spots = make([]api.SolSpot, n) }, func(s *api.Sol) { s.Spots = append(s.Spots, make([]api.SolSpot, n)...) }, func(s *api.Sol) { s.Groups = make([]api.SolGroup, n) }, func(s *api.Sol) { s.Chans = make([]api.SolQ, n) }, func(s *api.Sol) { s.Waits = make([]api.SolWait, n) },
		func(s *api.Sol) { s.Groups[0].Env = make([]api.SolVal, n) }, func(s *api.Sol) { s.Chans[0].Queue = make([]api.SolMsg, n) }, func(s *api.Sol) { s.Chans[0].Queue[0].Vals = make([]api.SolVal, n) }, func(s *api.Sol) { s.Waits[0].Env = make([]api.SolVal, n) },
	} {
		u := copied(s)
		do(&u)
		if e := sol.Check(p, u); e != api.ErrArg {
			t.Error(i, e)
		}
		if all(t, p, u, api.SolStep{}, nil) != all(t, p, u, api.SolStep{}, nil) {
			t.Error(i, "other results")
		}
	}
}

// within calls f with a value, and with all values within it.
func within(v reflect.Value, f func(reflect.Value)) {
	f(v)
	switch v.Kind() {
	case reflect.Struct:
		for i := range v.NumField() {
			within(v.Field(i), f)
		}
	case reflect.Slice:
		for i := range v.Len() {
			within(v.Index(i), f)
		}
	}
}

// roomy puts more behind the ends of all lists that a points to, which is not to be
// written to, and returns a function that writes down all that there is.
func roomy(a any) func() string {
	var l []reflect.Value
	within(reflect.ValueOf(a).Elem(), func(v reflect.Value) {
		if v.Kind() == reflect.Slice {
			n := v.Len()
			more := reflect.MakeSlice(v.Type(), n+2, n+2)
			reflect.Copy(more, v)
			v.Set(more.Slice(0, n))
			l = append(l, more)
		}
	})
	return func() string { return fmt.Sprint(reflect.ValueOf(a).Elem(), l) }
}

func TestMemory(t *testing.T) {
	solutions(11, 150, func(m *maker, p api.ScopeProg, s api.Sol) {
		p, s = copied(p), copied(s)
		x, picks := api.SolStep{}, []int{m.IntN(20), m.IntN(20), m.IntN(20)}
		if l := steps(t, p, s); len(l) > 0 {
			x = l[m.IntN(len(l))]
		}
		var before []string
		args := []func() string{roomy(&p), roomy(&s), roomy(&x), roomy(&picks)}
		for _, text := range args {
			before = append(before, text())
		}
		s1, l1, _ := sol.First(p)
		x2, _ := sol.Nth(p, s, 0)
		s3, l3, _ := sol.Do(p, s, x)
		s4, l4, _ := sol.Run(p, s, picks)
		s5, l5, _ := sol.Run(p, s, nil)
		l6, _ := sol.Within(s, 0)
		if !sample.Apart(&p, &s, &x, &picks, &s1, &l1, &x2, &s3, &l3, &s4, &l4, &s5, &l5, &l6) {
			t.Fatal(source(p), "memory is shared")
		}
		for i, text := range args {
			if text() != before[i] {
				t.Fatal(before[i], text())
			}
		}
	})
	env := slices.Clip(vals())
	e := exp(api.TermAdd, name(0), name(1))
	before := fmt.Sprint(e, env)
	if sol.Value(e, env); fmt.Sprint(e, env) != before {
		t.Error(e, env)
	}
}
