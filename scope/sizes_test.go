package scope_test

import (
	"fmt"
	"slices"
	"testing"

	"cabotage/api"
	"cabotage/scope"
)

// P3.2

func facts(t *testing.T, p api.ScopeProg) (sizes []int, needs, below [][]int) {
	t.Helper()
	sizes, e := scope.Sizes(p)
	needs, f := scope.Needs(p)
	below, g := scope.Below(p)
	if e != api.OK || f != api.OK || g != api.OK {
		t.Fatal(e, f, g, show(p))
	}
	return sizes, needs, below
}

func TestSizes(t *testing.T) {
	for _, c := range []struct{ source, sizes, needs, below string }{
		{"0", "[0]", "[[]]", "[[0]]"},
		{"stop | x(y + 1 < y, ~3)", "[2 2 2]", "[[0 1] [] [0 1]]", "[[0 1 2] [1] [2]]"},
		{"if a then go b; 0 else watch c; d()", "[4 4 4 4 4]", "[[0 1 2 3] [1] [] [2 3] [3]]", "[[0 1 2 3 4] [1 2] [2] [3 4] [4]]"},
		{"def x() = 0 in y(x)", "[1 2 2]", "[[0] [] [0 1]]", "[[0 1 2] [1] [2]]"},
		{example, "[3 7 6 6 6 6 6 6]", "[[0 1 2] [0 2 6] [1 3] [3] [4 5] [4] [5] []]", "[[0 1 2 3 4 5 6 7] [1] [2 3] [3] [4 5 6 7] [5] [6 7] [7]]"},
		{
			rich, "[2 9 9 9 9 8 10 11 11 8 8 8 8 8 8 8]",
			"[[0 1] [1 2 6 8] [1 2 8] [6] [] [] [3] [3] [10] [5 7] [6] [] [0 2 3] [3] [0 2] [2]]",
			"[[0 1 2 3 4 5 6 7 8 9 10 11 12 13 14 15] [1 2 3 4] [2] [3 4] [4] [5] [6 7 8] [7] [8] [9] [10 11] [11] [12 13 14 15] [13] [14 15] [15]]",
		},
		{ // the Manys of a rule are added in the rule alone
			"def x(a, b) & y(c) = z(a, b, c) and u() & v(d) = u() in v(z)", "[1 8 6 5]", "[[0] [0 5 6 7] [3] [0 4]]", "[[0 1 2 3] [1] [2] [3]]",
		},
	} {
		sizes, needs, below := facts(t, bind(t, c.source))
		if fmt.Sprint(sizes) != c.sizes || fmt.Sprint(needs) != c.needs || fmt.Sprint(below) != c.below {
			t.Error(c.source, sizes, needs, below)
		}
	}
}

// TestNumbers: definitions' numbers, and integers, are no places, and nodes come
// by their numbers.
func TestNumbers(t *testing.T) {
	p := api.ScopeProg{
		Free: []string{"a", "b", "c"}, Main: 2,
		Nodes: []api.ScopeNode{{Op: api.TermSend, N: 1, Args: []api.ScopeExp{num(2), exp(api.TermAdd, num(0), name(1))}}, node(api.TermNil, 0), node(api.TermDef, 1, 3), node(api.TermDef, 0, 0)},
		Defs:  []api.ScopeDef{{Spots: []api.ScopeSpot{{Node: 1}}}, {}},
	}
	sizes, needs, below := facts(t, p)
	if fmt.Sprint(sizes) != "[4 4 3 3]" || fmt.Sprint(needs) != "[[1] [] [1] [1]]" || fmt.Sprint(below) != "[[0] [1] [0 1 2 3] [0 1 3]]" {
		t.Error(sizes, needs, below)
	}
}

func TestSizesChance(t *testing.T) {
	formed(t, 2, func(m *maker, p api.ScopeProg) {
		sizes, needs, below := facts(t, p)
		if len(sizes) != len(p.Nodes) || len(needs) != len(p.Nodes) || len(below) != len(p.Nodes) {
			t.Fatal(sizes, needs, below, show(p))
		}
		q := newPlain(p)
		for i := range p.Nodes {
			if sizes[i] != q.size(i) || !slices.Equal(below[i], q.below(i)) || !slices.Equal(needs[i], q.needs(i)) {
				t.Fatal(i, sizes, needs, below, show(p))
			}
		}
	})
}
