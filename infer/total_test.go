package infer_test

import (
	"fmt"
	"reflect"
	"slices"
	"strings"
	"testing"

	"cabotage/api"
	"cabotage/infer"
	"cabotage/term"
)

// P0.12, and the rules R2 to R4 and R8

// all calls each function of a process, and returns its results as text. It asks
// that there is nothing else with an error.
func all(t *testing.T, u api.Term, some []int, l []api.InferType) string {
	t.Helper()
	demands, e1 := infer.Demands(u)
	met, e2 := infer.Types(u, some)
	types, e3 := infer.Infer(u)
	why, e4 := infer.Explain(u)
	with, e5 := infer.With(u, l)
	if e1 != api.OK && len(demands) > 0 || e2 != api.OK && met || e3 != api.OK && len(types.Free)+len(types.Defs) > 0 || e4 != api.OK && len(why) > 0 || e5 != api.OK && with {
		t.Fatal(printed(u), demands, e1, met, e2, types, e3, why, e4, with, e5)
	}
	if is := term.Check(u); is != e1 || is != api.OK && (e2 != is || e3 != is || e4 != is || e5 != is) || is == api.OK && (e3 == api.ErrRule) == (e4 == api.ErrNone) {
		t.Fatal(printed(u), is, e1, e2, e3, e4, e5)
	}
	return fmt.Sprint(demands, e1, met, e2, showTyping(types), e3, why, e4, with, e5)
}

func TestAnyProcess(t *testing.T) {
	none := api.Term{Op: api.TermNil}
	ring := []api.Term{none, none}
	ring[1] = api.Term{Op: api.TermPar, Kids: ring}
	defs := []api.TermClause{{Form: api.TermPlace, Text: "p", Kids: ring[:1]}}
	defs[0].Defs = defs
	exps := []api.TermExp{{Op: api.TermInt}, {Op: api.TermInt}}
	exps[1] = api.TermExp{Op: api.TermSame, Kids: exps}
	twice := none // 2^60 nodes that share memory
	for range 60 {
		twice = api.Term{Op: api.TermPar, Kids: []api.Term{twice, twice}}
	}
	for i, u := range []api.Term{
		{}, {Op: -1}, {Op: 9}, {Op: api.TermSend, Text: "place"}, ring[1], twice, {Op: api.TermDef, Defs: defs, Kids: ring[:1]}, {Op: api.TermSend, Text: "x", Args: exps[1:]}, {Op: api.TermIf, Args: exps[1:], Kids: ring},
		{Op: api.TermPar, Kids: make([]api.Term, 1<<20)}, {Op: api.TermDef, Defs: make([]api.TermClause, 1<<20), Kids: ring[:1]}, {Op: api.TermSend, Text: "x", Args: make([]api.TermExp, 1<<20)},
		{Op: api.TermDef, Defs: []api.TermClause{{Form: api.TermRule, Kids: ring[:1]}}, Kids: ring[:1]}, {Op: api.TermSend, Text: strings.Repeat("a", 1<<20)},
	} {
		if term.Check(u) != api.ErrArg {
			t.Error(i, "is formed")
		}
		for _, l := range [][]api.InferType{nil, noTypes()} {
			if a, b := all(t, u, []int{0, 1}, l), all(t, u, []int{0, 1}, l); a != b {
				t.Error(i, a, b)
			}
		}
	}
}

// TestSpoilt: processes with something changed by chance have results, or an error
// and nothing else, and the same ones twice.
func TestSpoilt(t *testing.T) {
	formed(t, 7, 2000, func(m *maker, u api.Term) {
		for range m.IntN(3) {
			m.spoil(reflect.ValueOf(&u).Elem())
		}
		free, _ := term.Free(u)
		l := list(free, func(string) api.InferType { return m.kind(3, 2) })
		some := every(u)
		if m.IntN(4) == 0 {
			some = append(some, m.IntN(30))
		}
		if len(l) > 0 && m.IntN(4) == 0 {
			m.spoil(reflect.ValueOf(&l[0]).Elem())
		}
		if a, b := all(t, u, some, l), all(t, u, some, l); a != b {
			t.Fatal(printed(u), a, b)
		}
		for _, k := range l {
			if a, b := unified(k, l[0]), unified(k, l[0]); a != b {
				t.Fatal(k, l[0], a, b)
			}
			is, e := infer.Instance(l[:1], []api.InferType{k})
			if too, f := infer.Instance(l[:1], []api.InferType{k}); is != too || e != f || e != api.OK && is {
				t.Fatal(k, l[0], is, e)
			}
		}
	})
}

// spoil changes one thing in a value: a number, a name, or how long a list is.
func (m *maker) spoil(v reflect.Value) {
	var all []reflect.Value
	var visit func(v reflect.Value)
	visit = func(v reflect.Value) {
		switch v.Kind() {
		case reflect.Struct:
			for i := range v.NumField() {
				visit(v.Field(i))
			}
			return
		case reflect.Slice:
			for i := range v.Len() {
				visit(v.Index(i))
			}
		}
		all = append(all, v)
	}
	visit(v)
	v = all[m.IntN(len(all))]
	switch v.Kind() {
	case reflect.Int:
		v.SetInt(v.Int() + int64(m.IntN(5)) - 2)
	case reflect.String:
		v.SetString([]string{"", "a", "x", "go", "o"}[m.IntN(5)])
	case reflect.Slice:
		if v.Len() > 0 && m.IntN(2) == 0 {
			v.Set(v.Slice(0, v.Len()-1))
			return
		}
		v.Set(reflect.Append(v.Slice3(0, v.Len(), v.Len()), reflect.Zero(v.Type().Elem())))
	}
}

// stretch is a piece of memory: from an address to below another one.
type stretch struct{ from, to uintptr }

// memory lists the memory of all lists within a value, with what lies behind their
// ends in the same pieces.
func memory(v reflect.Value) []stretch {
	var l []stretch
	switch v.Kind() {
	case reflect.Struct:
		for i := range v.NumField() {
			l = append(l, memory(v.Field(i))...)
		}
	case reflect.Slice:
		if v.Cap() > 0 {
			l = append(l, stretch{v.Pointer(), v.Pointer() + uintptr(v.Cap())*v.Type().Elem().Size()})
		}
		for i := range v.Len() {
			l = append(l, memory(v.Index(i))...)
		}
	}
	return l
}

// apart asks that all lists in some values have memory of their own.
func apart(t *testing.T, values ...any) {
	t.Helper()
	var l []stretch
	for _, v := range values {
		l = append(l, memory(reflect.ValueOf(v))...)
	}
	slices.SortFunc(l, func(a, b stretch) int {
		if a.from < b.from {
			return -1
		}
		return 1
	})
	for i := range len(l) - 1 {
		if l[i].to > l[i+1].from {
			t.Fatal("memory is shared")
		}
	}
}

// roomy returns a list with room behind its end that is not to be written to.
func roomy[A any](l []A, mark A) []A { return append(slices.Clip(l), mark, mark)[:len(l)] }

func TestMemory(t *testing.T) {
	formed(t, 8, 2000, func(m *maker, u api.Term) {
		v := u
		v.Kids = roomy(u.Kids, api.Term{Op: api.TermStop})
		v.Args = roomy(u.Args, api.TermExp{Op: api.TermName, Text: "kept"})
		some := roomy(every(u), -7)
		free, _ := term.Free(u)
		l := roomy(list(free, func(string) api.InferType { return m.kind(3, 2) }), kind("77"))
		before := all(t, v, some, l) + printed(v) + fmt.Sprint(some[:len(some)+2], l[:len(l)+2], v.Kids[:len(v.Kids)+2], v.Args[:len(v.Args)+2])
		demands, _ := infer.Demands(v)
		types, _ := infer.Infer(v)
		why, _ := infer.Explain(v)
		apart(t, v, some, l, demands, types, why)
		after := all(t, v, some, l) + printed(v) + fmt.Sprint(some[:len(some)+2], l[:len(l)+2], v.Kids[:len(v.Kids)+2], v.Args[:len(v.Args)+2])
		if before != after {
			t.Fatal(before, after)
		}
	})
	m := newMaker(9)
	for range 5000 {
		a, b := m.kind(4, 3), m.kind(4, 3)
		if m.IntN(2) == 0 {
			b = kind(show(put(a, map[int]api.InferType{0: m.kind(3, 0), 1: kind("2")})))
			a.Kids, b.Kids = roomy(a.Kids, kind("77")), roomy(b.Kids, kind("88"))
		}
		before := fmt.Sprint(a, b, a.Kids[:cap(a.Kids)], b.Kids[:cap(b.Kids)])
		k, _, _ := infer.Unify(a, b)
		infer.Instance([]api.InferType{a}, []api.InferType{b})
		apart(t, a, b, k)
		if after := fmt.Sprint(a, b, a.Kids[:cap(a.Kids)], b.Kids[:cap(b.Kids)]); before != after {
			t.Fatal(before, after)
		}
	}
	// What stands in many places of a type has memory of its own in each of them.
	k, _, _ := infer.Unify(kind("chan(0, 0, 1)"), kind("chan(chan(int), 2, chan(0))"))
	apart(t, k)
	y, _ := infer.Infer(parse(t, "a(1) | b(a, a) | c(b, b) | def x(k) = k(c, b) and y(k) = x(k) in 0"))
	apart(t, y)
}
