package infer_test

import (
	"testing"

	"cabotage/api"
	"cabotage/infer"
	"cabotage/term"
)

// P4.4

func TestWith(t *testing.T) {
	for _, c := range []struct {
		source, types string
		want          bool
	}{
		{procA, "chan(int), int", false},
		{procA, "chan(int), place", false},
		{procB, "chan(int), chan(chan(int))", true},
		{procB, "chan(int), chan(int)", false},
		{procB, "chan(0), chan(chan(0))", false},
		{procB, "chan(chan(int)), chan(chan(chan(int)))", false},
		{procC, "chan(int)", true},
		{procC, "chan(place)", false},
		{procC, "chan(0)", false},
		{procC, "0", false},
		{procC + " | cell(out)", "chan(int)", false},
		{procD, "place", true},
		{procD, "0", true},
		{procD, "chan(chan(), 999, 0)", true},
		{"0", "", true},
		{"x(x)", "chan(0)", false},
		{"x(x)", "0", false},
		// variables are types of their own
		{"f(a)", "5, chan(5)", true},
		{"f(a)", "5, chan(6)", false},
		{"f(a)", "5, chan(int)", false},
		{"f(a)", "int, 0", false},
		{"f(a)", "chan(0), chan(chan(0))", true},
		{"f(a)", "chan(0), chan(chan(1))", false},
		{"f()", "0", false},
		{"go p; 0", "0", false},
		{"if a == b then 0 else 0", "0, 0", true},
		{"if a == b then 0 else 0", "0, 1", false},
		{"if a == b then 0 else 0", "chan(0, 1), chan(0, 1)", true},
		{"if a == b then 0 else 0", "chan(0, 1), chan(1, 0)", false},
		// free names in order, whatever comes first
		{"z(b) | a(z)", "chan(chan(int)), int, chan(int)", true},
		{"z(b) | a(z)", "chan(int), chan(chan(int)), int", false},
		// names that are free as well as bound
		{"(def y(a) = 0 in y(1)) | y()", "chan()", true},
		{"(def y(a) = 0 in y(1)) | y()", "chan(int)", false},
		// types of their own are not general
		{"def x(a) = if a == b then 0 else 0 in x(c)", "0, 0", true},
		{"def x(a) = if a == b then 0 else 0 in x(c)", "0, 1", false},
		{"def x(a) = if a == b then 0 else 0 in x(c)", "0, int", false},
		// nor do they keep others from being so
		{"def x(a, k) = k(a) in x(1, o) | x(b, q)", "3, chan(int), chan(3)", true},
		{"def x(a, k) & y() = k(a) in x(b, o) | x(c, q)", "3, 4, chan(3), chan(4)", true},
		{"def x(a, k) & y() = k(a) in x(b, o) | x(c, q)", "3, 4, chan(3), chan(3)", false},
		{"def x(k) & y(a) = k(a) in x(o) | x(q)", "chan(0), chan(0)", true},
		{"def x(k) & y(a) = k(a) in x(o) | x(q)", "chan(0), chan(1)", false},
	} {
		if is, e := infer.With(parse(t, c.source), kinds(c.types)); e != api.OK || is != c.want {
			t.Error(c.source, c.types, is, e)
		}
	}
	// A process that types does so with types that are too large to be returned.
	u := parse(t, "def x(a) & y(b) = if a == b then 0 else 0 in x(o)")
	if is, e := infer.With(u, []api.InferType{nested(200)}); e != api.OK || !is {
		t.Error(is, e)
	}
}

// nested is a type of channels in each other, of some nodes.
func nested(nodes int) api.InferType {
	k := kind("chan()")
	for range nodes - 1 {
		k = api.InferType{Op: api.InferChan, Kids: []api.InferType{k}}
	}
	return k
}

// noTypes are values that are no types.
func noTypes() []api.InferType {
	ring := make([]api.InferType, 1)
	ring[0] = api.InferType{Op: api.InferChan, Kids: ring}
	twice := kind("int") // 3^60 nodes that share memory
	for range 60 {
		twice = api.InferType{Op: api.InferChan, Kids: []api.InferType{twice, twice, twice}}
	}
	one := kinds("int")
	return []api.InferType{
		{}, {Op: -1}, {Op: 5}, {Op: api.InferInt, N: 1}, {Op: api.InferPlace, N: -1}, {Op: api.InferChan, N: 1}, {Op: api.InferVar, N: -1}, {Op: api.InferVar, N: api.InferVars + 1},
		{Op: api.InferInt, Kids: one}, {Op: api.InferPlace, Kids: one}, {Op: api.InferVar, Kids: one}, {Op: 5, Kids: one}, {Kids: one},
		{Op: api.InferChan, Kids: kinds("int, int, int, int")}, {Op: api.InferChan, Kids: make([]api.InferType, 1)}, {Op: api.InferChan, Kids: make([]api.InferType, 1<<20)},
		{Op: api.InferChan, Kids: []api.InferType{kind("int"), {Op: api.InferVar, N: api.InferVars + 1}}}, {Op: api.InferChan, Kids: []api.InferType{{Op: api.InferChan, Kids: []api.InferType{{Op: api.InferInt, N: 1}}}}},
		nested(201), ring[0], twice,
	}
}

func TestWithErrors(t *testing.T) {
	u := parse(t, procD)
	for i, k := range noTypes() {
		if is, e := infer.With(u, []api.InferType{k}); e != api.ErrArg || is {
			t.Error(i, is, e)
		}
		if is, e := infer.With(parse(t, "f(a)"), []api.InferType{kind("0"), k}); e != api.ErrArg || is {
			t.Error(i, is, e)
		}
	}
	for i, l := range [][]api.InferType{nil, kinds("int, int"), kinds("int, int, int"), make([]api.InferType, 1<<16)} {
		if is, e := infer.With(u, l); e != api.ErrArg || is {
			t.Error(i, is, e)
		}
	}
	if is, e := infer.With(parse(t, "0"), kinds("int")); e != api.ErrArg || is {
		t.Error(is, e)
	}
	if is, e := infer.With(parse(t, procA), kinds("int")); e != api.ErrArg || is { // although it does not type
		t.Error(is, e)
	}
	for i, v := range []api.Term{{}, {Op: api.TermSend, Text: "in"}} {
		if is, e := infer.With(v, nil); e != api.ErrArg || is {
			t.Error(i, is, e)
		}
	}
	for _, k := range []api.InferType{kind("999"), nested(200), kind("chan(int, place, chan())")} {
		if is, e := infer.With(u, []api.InferType{k}); e != api.OK || !is {
			t.Error(show(k), is, e)
		}
	}
}

// TestWithChance: the types are principal.
func TestWithChance(t *testing.T) {
	yes, no := 0, 0
	formed(t, 5, 5000, func(m *maker, u api.Term) {
		y, e := infer.Infer(u)
		free, _ := term.Free(u)
		for range 4 {
			l := list(free, func(string) api.InferType { return m.kind(3, 2) })
			if e == api.OK && m.IntN(3) > 0 {
				l = putAll(y.Free, m.others(y.Free, 2))
			}
			if i := m.IntN(10); i < len(l) {
				l[i] = m.kind(2, 2)
			}
			want := e == api.OK && matches(y.Free, l)
			is, err := infer.With(u, l)
			instance, _ := infer.Instance(y.Free, l)
			if err != api.OK || is != want || e == api.OK && instance != want {
				t.Fatal(printed(u), showAll(y.Free), showAll(l), is, err, instance)
			}
			if is && len(l) > 0 {
				yes++
			} else {
				no++
			}
		}
	})
	if yes < 2000 || no < 2000 {
		t.Error(yes, no)
	}
}

// others returns types for all variables of some types, with variables below a
// number.
func (m *maker) others(l []api.InferType, most int) map[int]api.InferType {
	in := map[int]api.InferType{}
	for _, k := range l {
		for v := range variables(k) {
			if _, is := in[v]; !is {
				in[v] = m.kind(2, most)
			}
		}
	}
	return in
}
