package scope_test

import (
	"fmt"
	"reflect"
	"slices"
	"testing"

	"cabotage/api"
	"cabotage/scope"
)

// P0.12, and the rules R2 to R4 and R8

// all calls each function of a program, and returns its results as text. It asks
// that there is nothing else with an error.
func all(t *testing.T, p api.ScopeProg) string {
	t.Helper()
	e1 := scope.Check(p)
	sizes, e2 := scope.Sizes(p)
	needs, e3 := scope.Needs(p)
	below, e4 := scope.Below(p)
	is, e5 := scope.InOrder(p)
	u, e6 := scope.Term(p)
	if e2 != e1 || e3 != e1 || e4 != e1 || e5 != e1 || e1 != api.OK && e6 != e1 {
		t.Fatal(e1, e2, e3, e4, e5, e6)
	}
	if e1 != api.OK && (sizes != nil || needs != nil || below != nil || is) || e6 != api.OK && !reflect.DeepEqual(u, api.Term{}) {
		t.Fatal(e1, sizes, needs, below, is, printed(u))
	}
	return fmt.Sprint(e1, sizes, needs, below, is, e6, printed(u))
}

func TestAnyProgram(t *testing.T) {
	kids := []api.ScopeExp{num(1), num(1)}
	kids[0] = exp(api.TermAdd, kids...)
	kids[0].Kids = kids // it contains itself
	twice := num(1)     // 2^60 nodes that share memory
	for range 60 {
		twice = exp(api.TermAdd, twice, twice)
	}
	huge := bind(t, rich)
	huge.Defs[0].Chans = make([]api.ScopeChan, 1<<20)
	joins := bind(t, rich)
	joins.Defs[0].Rules[0].Joins = make([]int, 1<<20)
	sons := bind(t, rich)
	sons.Nodes[12].Kids = make([]int, 1<<20)
	for i, p := range []api.ScopeProg{
		{}, saying(kids...), saying(num(1), twice), saying(exp(api.TermAdd, make([]api.ScopeExp, 1<<20)...)), saying(make([]api.ScopeExp, 1<<20)...), huge, joins, sons,
		{Free: make([]string, 1<<20)}, {Nodes: make([]api.ScopeNode, 1<<20)}, {Defs: make([]api.ScopeDef, 1<<20)}, {Main: -1}, {Main: 1},
	} {
		if e := scope.Check(p); e != api.ErrArg {
			t.Error(i, e)
		}
		if all(t, p) != all(t, p) {
			t.Error(i, "other results")
		}
	}
	for _, c := range slices.Concat(unformed(), unformedDefs()) {
		p := bind(t, rich)
		c.do(&p)
		if all(t, p) != all(t, p) {
			t.Error(c.what, "other results")
		}
	}
}

// TestSpoilt: programs with some things changed by chance have results, or an error
// and nothing else, and the same ones twice.
func TestSpoilt(t *testing.T) {
	m := newMaker(7)
	for range 3000 {
		p := m.program()
		for range 1 + m.IntN(4) {
			m.spoil(&p)
		}
		if all(t, p) != all(t, p) {
			t.Fatal("other results", show(p))
		}
	}
}

func TestAnyProcess(t *testing.T) {
	none := api.Term{Op: api.TermNil}
	ring := []api.Term{none, none}
	ring[1] = api.Term{Op: api.TermPar, Kids: ring}
	defs := []api.TermClause{{Form: api.TermPlace, Text: "p", Kids: ring[:1]}}
	defs[0].Defs = defs
	exps := []api.TermExp{{Op: api.TermInt}, {Op: api.TermInt}}
	exps[1] = api.TermExp{Op: api.TermSame, Kids: exps}
	for i, u := range []api.Term{
		{}, ring[1], {Op: api.TermDef, Defs: defs, Kids: ring[:1]}, {Op: api.TermSend, Text: "x", Args: exps[1:]}, {Op: api.TermIf, Args: exps[1:], Kids: ring},
		{Op: api.TermPar, Kids: make([]api.Term, 1<<20)}, {Op: api.TermDef, Defs: make([]api.TermClause, 1<<20), Kids: ring[:1]}, {Op: api.TermSend, Text: "x", Args: make([]api.TermExp, 1<<20)},
	} {
		if p, e := scope.Bind(u); e != api.ErrArg || !same(p, api.ScopeProg{}) {
			t.Error(i, e, show(p))
		}
	}
}

// stretch is a piece of memory: from an address to below another one.
type stretch struct{ from, to uintptr }

// memory returns the memory of all lists in some values, with what lies behind
// their ends in the same pieces.
func memory(values ...any) []stretch {
	var l []stretch
	var visit func(v reflect.Value)
	visit = func(v reflect.Value) {
		switch v.Kind() {
		case reflect.Struct:
			for i := range v.NumField() {
				visit(v.Field(i))
			}
		case reflect.Slice:
			if v.Cap() > 0 {
				l = append(l, stretch{v.Pointer(), v.Pointer() + uintptr(v.Cap())*v.Type().Elem().Size()})
			}
			for i := range v.Len() {
				visit(v.Index(i))
			}
		}
	}
	for _, v := range values {
		visit(reflect.ValueOf(v))
	}
	return l
}

// apart asks that all lists in some values have memory of their own.
func apart(t *testing.T, values ...any) {
	t.Helper()
	l := memory(values...)
	slices.SortFunc(l, func(a, b stretch) int {
		if a.from < b.from {
			return -1
		}
		return 1
	})
	for i := range len(l) - 1 {
		if l[i].to > l[i+1].from {
			t.Fatal("memory is shared")
		}
	}
}

func TestMemory(t *testing.T) {
	formed(t, 8, func(m *maker, p api.ScopeProg) {
		// Room behind the ends that is not to be written to.
		free := append(slices.Clip(p.Free), "kept", "kept")
		p.Free = free[:len(p.Free):len(free)]
		before := show(p)
		sizes, needs, below := facts(t, p)
		u, e := scope.Term(p)
		apart(t, p, sizes, needs, below, u)
		if show(p) != before || free[len(p.Free)] != "kept" || free[len(p.Free)+1] != "kept" {
			t.Fatal(before, show(p))
		}
		if e != api.OK {
			return
		}
		source := printed(u)
		q, _ := scope.Bind(u)
		apart(t, u, q)
		if printed(u) != source {
			t.Fatal(source, printed(u))
		}
	})
}
