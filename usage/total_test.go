package usage_test

import (
	"fmt"
	"math"
	"reflect"
	"slices"
	"testing"

	"cabotage/api"
	"cabotage/scope"
	"cabotage/usage"
)

// P0.12, and the rules R2 to R4 and R8

// unformed are programs that are not formed.
func unformed(t *testing.T) []api.ScopeProg {
	t.Helper()
	kids := []api.ScopeExp{num(1), num(1)}
	kids[0] = api.ScopeExp{Op: api.TermAdd, Kids: kids} // it contains itself
	twice := num(1)                                     // 2^60 nodes that share memory
	for range 60 {
		twice = api.ScopeExp{Op: api.TermAdd, Kids: []api.ScopeExp{twice, twice}}
	}
	saying := func(e api.ScopeExp) api.ScopeProg {
		return api.ScopeProg{Free: []string{"x"}, Nodes: []api.ScopeNode{{Op: api.TermSend, Args: []api.ScopeExp{e}}}}
	}
	l := []api.ScopeProg{
		{}, {Main: -1, Nodes: []api.ScopeNode{{Op: api.TermNil}}}, {Nodes: []api.ScopeNode{{}}}, {Nodes: []api.ScopeNode{{Op: 9}}},
		{Nodes: []api.ScopeNode{{Op: api.TermPar, Kids: []int{0, 0}}}}, {Nodes: []api.ScopeNode{{Op: api.TermSend}}},
		{Nodes: make([]api.ScopeNode, 1<<20)}, {Defs: make([]api.ScopeDef, 1<<20)}, saying(kids[0]), saying(twice), saying(name(1)),
	}
	for _, change := range []func(p *api.ScopeProg){
		func(p *api.ScopeProg) { p.Nodes[5].Kids[0] = 5 },
		func(p *api.ScopeProg) { p.Nodes[0].N = 1 },
		func(p *api.ScopeProg) { p.Defs[0].Chans[0].Many = -1 },
		func(p *api.ScopeProg) { p.Defs[0].Chans[0].Many = math.MaxInt },
		func(p *api.ScopeProg) { p.Defs[0].Rules[0].Joins[0] = 3 },
		func(p *api.ScopeProg) { p.Defs[0].Rules[0].Node = -1 },
		func(p *api.ScopeProg) { p.Defs[0].Rules[1].Joins = p.Defs[0].Rules[1].Joins[:1] },
		func(p *api.ScopeProg) { p.Defs = append(p.Defs, p.Defs[1]) },
	} {
		p := bind(t, example)
		change(&p)
		l = append(l, p)
	}
	for i, p := range l {
		if scope.Check(p) != api.ErrArg {
			t.Fatal(i, "is formed")
		}
	}
	return l
}

// all calls each function, and returns the results as text. It asks that there is
// nothing else with an error.
func all(t *testing.T, p api.ScopeProg, u []api.UsageDef, node, place int) string {
	t.Helper()
	kind, e1 := usage.Sends(p, u, node, place)
	sure, e2 := usage.Sure(p, node, place)
	own, e3 := usage.Table(p)
	is, e4 := usage.Accepts(p, u)
	if e1 != api.OK && kind != 0 || e2 != api.OK && sure != 0 || e3 != api.OK && own != nil || e4 != api.OK && is {
		t.Fatal(source(p), show(u), kind, e1, sure, e2, own, e3, is, e4)
	}
	formed := scope.Check(p)
	if e3 != formed || formed != api.OK && (e1 != formed || e2 != formed || e4 != formed) || e4 != api.OK && e1 != api.ErrArg || e2 != api.OK && e1 != api.ErrArg {
		t.Fatal(source(p), show(u), e1, e2, e3, e4)
	}
	return fmt.Sprint(kind, e1, sure, e2, show(own), e3, is, e4)
}

// TestSpoilt: programs and tables with some things changed by chance have results,
// or an error and nothing else, and the same ones twice.
func TestSpoilt(t *testing.T) {
	m := newMaker(8)
	for range 3000 {
		p := m.program(5)
		u := m.raised(p, found(t, p))
		for range m.IntN(3) {
			m.spoil(reflect.ValueOf(&p).Elem())
		}
		for range m.IntN(2) {
			m.spoil(reflect.ValueOf(&u).Elem())
		}
		node, place := m.IntN(len(p.Nodes)+2)-1, m.IntN(12)-1
		if all(t, p, u, node, place) != all(t, p, u, node, place) {
			t.Fatal("other results", source(p), show(u))
		}
	}
}

// spoil changes one thing in a value: a number, a name, or how long a list is.
func (m *maker) spoil(v reflect.Value) {
	var l []reflect.Value
	var visit func(v reflect.Value)
	visit = func(v reflect.Value) {
		switch v.Kind() {
		case reflect.Struct:
			for i := range v.NumField() {
				visit(v.Field(i))
			}
			return
		case reflect.Slice:
			for i := range v.Len() {
				visit(v.Index(i))
			}
		}
		l = append(l, v)
	}
	visit(v)
	v = l[m.IntN(len(l))]
	switch v.Kind() {
	case reflect.Int:
		v.SetInt([]int64{v.Int() + 1, v.Int() - 1, 0, 1, 4, math.MaxInt64, math.MinInt64}[m.IntN(7)])
	case reflect.String:
		v.SetString([]string{"", "a", "out", "go"}[m.IntN(4)])
	case reflect.Slice:
		if v.Len() > 0 && m.IntN(2) == 0 {
			v.Set(v.Slice(0, v.Len()-1))
			return
		}
		v.Set(reflect.Append(v.Slice3(0, v.Len(), v.Len()), reflect.Zero(v.Type().Elem())))
	}
}

// stretch is a piece of memory: from an address to below another one.
type stretch struct{ from, to uintptr }

// memory lists the memory of all lists within a value, with what lies behind their
// ends in the same pieces.
func memory(v reflect.Value) []stretch {
	var l []stretch
	switch v.Kind() {
	case reflect.Struct:
		for i := range v.NumField() {
			l = append(l, memory(v.Field(i))...)
		}
	case reflect.Slice:
		if v.Cap() > 0 {
			l = append(l, stretch{v.Pointer(), v.Pointer() + uintptr(v.Cap())*v.Type().Elem().Size()})
		}
		for i := range v.Len() {
			l = append(l, memory(v.Index(i))...)
		}
	}
	return l
}

// apart asks that all lists in some values have memory of their own.
func apart(t *testing.T, values ...any) {
	t.Helper()
	var l []stretch
	for _, v := range values {
		l = append(l, memory(reflect.ValueOf(v))...)
	}
	slices.SortFunc(l, func(a, b stretch) int {
		if a.from < b.from {
			return -1
		}
		return 1
	})
	for i := range len(l) - 1 {
		if l[i].to > l[i+1].from {
			t.Fatal("memory is shared")
		}
	}
}

// roomy returns a list with room behind its end that is not to be written to.
func roomy[A any](l []A, mark A) []A { return append(slices.Clip(l), mark, mark)[:len(l)] }

func TestMemory(t *testing.T) {
	m := newMaker(9)
	for range 2000 {
		p := m.program(5)
		p.Nodes = roomy(p.Nodes, api.ScopeNode{Op: -7})
		p.Defs = roomy(p.Defs, api.ScopeDef{})
		for i := range p.Nodes {
			p.Nodes[i].Kids = roomy(p.Nodes[i].Kids, -7)
		}
		for i := range p.Defs {
			p.Defs[i].Spots = roomy(p.Defs[i].Spots, api.ScopeSpot{Node: -7})
		}
		u := m.raised(p, found(t, p))
		for i := range u {
			u[i].Chans = roomy(u[i].Chans, -7)
			u[i].Args = roomy(u[i].Args, kinds("**"))
		}
		kept := func() string {
			s := fmt.Sprint(p, u, p.Nodes[:cap(p.Nodes)], p.Defs[:cap(p.Defs)])
			for _, n := range p.Nodes {
				s += fmt.Sprint(n.Kids[:cap(n.Kids)])
			}
			for i, d := range p.Defs {
				s += fmt.Sprint(d.Spots[:cap(d.Spots)], u[i].Chans[:cap(u[i].Chans)], u[i].Args[:cap(u[i].Args)])
			}
			return s
		}
		before := kept()
		first := all(t, p, u, p.Main, 0)
		apart(t, p, u, found(t, p))
		if all(t, p, u, p.Main, 0) != first || kept() != before {
			t.Fatal(before, kept())
		}
	}
}
