package infer_test

import (
	"slices"
	"testing"

	"cabotage/api"
	"cabotage/infer"
)

// P4.3

func TestExplain(t *testing.T) {
	for _, c := range []struct {
		source string
		want   []int
	}{
		{procA, []int{2, 3}},
		{"y(1) | go y; y(2)", []int{1, 2}}, // of the first and the last one, the last one stays
		{"go y; y(1) | y(2)", []int{0, 2}},
		{"go y; y(1) | watch y; 0", []int{1, 2}},
		{"y(1) | y(2) | go y; watch y; 0", []int{1, 3}},
		{"x(x)", []int{0}},
		{"x() | x(x) | x()", []int{1}},
		{"x(y) | y(z) | z(x) | go y; 0", []int{1, 3}},
		{"x(y) | go o; y(z) | watch o; z(x) | y(o)", []int{2, 3, 4, 5}},
		{"x(y) | go o; y(z) | watch o; z(x)", []int{0, 2, 4}},
		{"def place p { in 0 } in go p; p()", []int{1}},
		{"def place p { in 0 } in go p; p() | p(1)", []int{2}},
		{"if 1 then 0 else if a == b then go b; 0 else x(1 + a)", []int{2, 3, 6}},
		{procC + " | cell(out)", []int{0, 2, 3, 5, 6}},
		// an operand, one of two
		{"go a; x(a + b, b + a)", []int{0, 5}},
		{"go a; x(a + b) | go b; 0", []int{3, 4}},
		// a join, one of two
		{"def x(a) & y(b) = 0 in x() | y(1)", []int{0, 2}},
		{"def x(a) & y(b) = 0 in x(1) | y()", []int{1, 3}},
		{"def x(a) & y(b) & z() = go b; 0 in y(1) | x(x)", []int{1, 3, 4}},
		// two rules for one channel
		{"def x(a) = go a; 0 and x(b) = b(1) in 0", []int{0, 1, 2, 3}},
		{"def x(a) = 0 and x(b) = b(1) in x(2)", []int{1, 2, 3}},
		// what is used at two types is the channel's, in its Defs
		{"def x(a) = 0 and y() = x(1) in x(x)", []int{2, 3}},
		{"def x(a) = 0 and y(b) = if b then x(b) else 0 in go o; x(o)", []int{2, 3, 4, 5}},
	} {
		if l, e := infer.Explain(parse(t, c.source)); e != api.OK || !slices.Equal(l, c.want) {
			t.Error(c.source, l, e)
		}
	}
}

func TestExplainErrors(t *testing.T) {
	for _, s := range []string{"0", procB, procC, procD, "x(1)", "def x(a) = 0 in x(x)", towers("u(1, 1)", "e(d, c, r)")} {
		if l, e := infer.Explain(parse(t, s)); e != api.ErrNone || l != nil {
			t.Error(s, l, e)
		}
	}
	for i, u := range []api.Term{{}, {Op: api.TermSend, Text: "in"}, {Op: api.TermPar}} {
		if l, e := infer.Explain(u); e != api.ErrArg || l != nil {
			t.Error(i, l, e)
		}
	}
}

// TestExplainChance: an explanation cannot be met, but can with any of its demands
// left out; and it is the one that is left if demands are left out from the front.
func TestExplainChance(t *testing.T) {
	lengths := map[int]int{}
	formed(t, 3, 2000, func(m *maker, u api.Term) {
		l, e := infer.Explain(u)
		if typed(u) {
			if e != api.ErrNone || l != nil {
				t.Fatal(printed(u), l, e)
			}
			return
		}
		lengths[len(l)]++
		if is, err := infer.Types(u, l); e != api.OK || err != api.OK || is {
			t.Fatal(printed(u), l, e, err, is)
		}
		for _, n := range l {
			if is, err := infer.Types(u, without(l, n)); err != api.OK || !is {
				t.Fatal(printed(u), l, n, err, is)
			}
		}
		left := every(u)
		for _, n := range every(u) {
			if _, ok := newPlain(u).meet(without(left, n)); !ok {
				left = without(left, n)
			}
		}
		if !slices.Equal(l, left) {
			t.Fatal(printed(u), l, left)
		}
	})
	for n, least := range []int{0, 200, 100, 50, 20} {
		if lengths[n] < least {
			t.Errorf("only %d explanations of %d demands", lengths[n], n)
		}
	}
}
