package infer_test

import (
	"fmt"
	"math"
	"slices"
	"strings"
	"testing"

	"cabotage/api"
	"cabotage/infer"
)

// P4.1

// showDemands writes demands: each with its part, and with its N if this can be
// something else than 0.
func showDemands(l []api.InferDemand) string {
	words := []string{"", "operand", "alike", "send", "test", "go", "watch", "join"}
	return strings.Join(list(l, func(d api.InferDemand) string {
		if d.Wish == api.InferOperand || d.Wish == api.InferJoin || d.N != 0 {
			return fmt.Sprint(words[d.Wish], " ", d.Part, " ", d.N)
		}
		return fmt.Sprint(words[d.Wish], " ", d.Part)
	}), ", ")
}

func TestDemands(t *testing.T) {
	for _, c := range []struct{ source, want string }{
		{procA, "send 1, operand 2 0, operand 2 1, go 5"},
		{procB, "join 1 0, send 2, send 5, send 8"},
		{procC, "join 1 0, join 1 1, send 3, send 5, send 8, send 10"},
		{procD, "join 1 0, join 1 1, send 4, send 7, send 9"},
		{"0", ""},
		{"stop", ""},
		{"0 | stop", ""},
		{"x()", "send 0"},
		{"x(1, y, 2) | y()", "send 1, send 5"},
		{"go a; watch b; go a; stop", "go 0, watch 1, go 2"},
		{"if a then x() else if b then 0 else y()", "test 0, send 2, test 3, send 6"},
		{"x(a + b * 1, a - (b < 2))", "send 0, operand 1 0, operand 1 1, operand 3 0, operand 3 1, operand 6 0, operand 6 1, operand 8 0, operand 8 1"},
		{"if a == (b == c) then 0 else x(a == 1)", "test 0, alike 1, alike 3, send 7, alike 8"},
		{"def place p { in 0 } in 0", ""},
		{"def place p { in x() } in y()", "send 2, send 3"},
		// a rule's demands stand before those of its body, and those of its Joins in their order
		{"def x(a) & y(b, c) & z() = x(b) and y(a, d) = go a; 0 in z() | x(1)", "join 1 0, join 1 1, join 1 2, send 2, join 4 0, go 5, send 8, send 9"},
		// Defs as they stand: a place's Defs, and what is in it at first, before the rules behind it
		{"def place p { x() = y() and place q { z() = 0 in x() } in z() } and y() = x() in y()", "join 2 0, send 3, join 5 0, send 7, send 8, join 9 0, send 10, send 11"},
		{"def x(a) = def y() = a() in y() | x(y) in watch p; x(x)", "join 1 0, join 3 0, send 4, send 6, send 7, watch 9, send 10"},
	} {
		u := parse(t, c.source)
		l, e := infer.Demands(u)
		if e != api.OK || showDemands(l) != c.want {
			t.Error(c.source, showDemands(l), e)
		}
	}
}

func TestTypes(t *testing.T) {
	numbers := func(l ...int) []int { return l }
	for _, c := range []struct {
		source string
		some   []int
		want   bool
	}{
		{procA, numbers(0, 1, 2), true},
		{procA, numbers(2, 3), false},
		{procA, numbers(0, 1, 3), true},
		{procA, numbers(0, 1, 2, 3), false},
		{procA, nil, true},
		{"x(x)", nil, true},
		{"x(x)", numbers(0), false},
		{"0", nil, true},
		// with what is an integer, or a place, whatever is asked for
		{"go p; p(1)", numbers(0), true},
		{"go p; p(1)", numbers(1), true},
		{"go p; p(1)", numbers(0, 1), false},
		{"if a == 1 then go a; 0 else 0", numbers(0, 1), true},
		{"if a == 1 then go a; 0 else 0", numbers(0, 2), true},
		{"if a == 1 then go a; 0 else 0", numbers(1, 2), false},
		{"x(a == b) | go x; 0", numbers(0), true},
		{"def place p { in 0 } in p()", numbers(0), false},
		{"def place p { in p(1) } in 0", numbers(0), false},
		{"def place p { in 0 } in if p == 1 then 0 else 0", numbers(0), true},
		{"def place p { in 0 } in if p == 1 then 0 else 0", numbers(1), false},
		{"def place p { in 0 } in if p then 0 else 0", numbers(0), false},
		{"go p; if (p == 1) == 1 then 0 else 0", numbers(0, 1, 2), true},
		{"go p; if (p == 1) == 1 then 0 else 0", numbers(0, 3), false},
		// without its join a channel is anything, and each time something else
		{"def x(a) = 0 in x(1) | x(p) | go x; x(1, 2)", numbers(1, 2, 3, 4), true},
		{"def x(a) = 0 in x(1) | x(p) | go x; x(1, 2)", numbers(0, 1, 2), true},
		{"def x(a) = 0 in x(1) | x(p) | go x; x(1, 2)", numbers(0, 3), false},
		{"def x(a) = 0 in x(1) | x(p) | go x; x(1, 2)", numbers(0, 4), false},
		{"def x(a) = x(1) in x(p) | go x; go p; 0", numbers(0, 1, 4), true},
		{"def x(a) = x(1) in x(p) | go x; go p; 0", numbers(1, 2, 4), false},
		{"def x(a) = x(1) in x(p) | go x; go p; 0", numbers(0, 2, 4), true},
		{"def x(a) = x(1) in x(p) | go x; go p; 0", numbers(1, 3), false},
		// without a demand of a body, or of the other join, variables are not in common
		{procC + " | cell(out)", numbers(0, 1, 2, 3, 4, 5, 6), false},
		{procC + " | cell(out)", numbers(0, 1, 2, 3, 4, 5), true},
		{procC + " | cell(out)", numbers(0, 2, 3, 4, 5, 6), false},
		{procC + " | cell(out)", numbers(0, 2, 3, 5, 6), false},
		{procC + " | cell(out)", numbers(0, 1, 2, 3, 4, 6), true},
		{procC + " | cell(out)", numbers(0, 1, 3, 4, 5, 6), true},
		{procC + " | cell(out)", numbers(1, 2, 3, 4, 5, 6), true},
	} {
		is, e := infer.Types(parse(t, c.source), c.some)
		if e != api.OK || is != c.want {
			t.Error(c.source, c.some, is, e)
		}
	}
}

func TestTypesErrors(t *testing.T) {
	u := parse(t, procA)
	for _, l := range [][]int{{-1}, {4}, {0, 4}, {1, 0}, {1, 1}, {0, 1, 2, 3, 3}, {0, 1, 2, 3, 4}, {math.MaxInt}, {math.MinInt, 0}, {0, 0, 1, 2}, {-1, 0, 1, 2}, make([]int, 1<<16)} {
		if is, e := infer.Types(u, l); e != api.ErrArg || is {
			t.Error(l, is, e)
		}
	}
	if is, e := infer.Types(parse(t, "0"), []int{0}); e != api.ErrArg || is {
		t.Error(is, e)
	}
	if is, e := infer.Types(api.Term{}, nil); e != api.ErrArg || is {
		t.Error(is, e)
	}
	if l, e := infer.Demands(api.Term{}); e != api.ErrArg || l != nil {
		t.Error(l, e)
	}
}

// TestTypesChance: some demands, and the demands themselves, are what a plain
// reading says; and if some can be met together, so can any of them.
func TestTypesChance(t *testing.T) {
	some := func(m *maker, l []int) []int {
		often := 1 + m.IntN(6)
		return slices.DeleteFunc(slices.Clone(l), func(int) bool { return m.IntN(often+1) == 0 })
	}
	met := 0
	formed(t, 1, 6000, func(m *maker, u api.Term) {
		l := some(m, every(u))
		is, e := infer.Types(u, l)
		demands, want := newPlain(u).meet(l)
		got, _ := infer.Demands(u)
		if e != api.OK || is != want || !slices.Equal(got, demands) {
			t.Fatal(printed(u), l, is, e, showDemands(got), showDemands(demands))
		}
		if any := some(m, l); is {
			met++
			if is, e := infer.Types(u, any); e != api.OK || !is {
				t.Fatal(printed(u), l, any, is, e)
			}
		}
	})
	if met < 2000 {
		t.Errorf("only %d are met", met)
	}
}
