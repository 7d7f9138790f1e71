package sol_test

import (
	"fmt"
	"math"
	"slices"
	"testing"

	"cabotage/api"
	"cabotage/show"
	"cabotage/sol"
)

// P6.2: Value

// vals are an integer, a free name, a channel, a place, and integers as great and as
// small as they can be.
func vals() []api.SolVal {
	most := api.TermMost
	return append([]api.SolVal{{Kind: api.SolInt, N: 7}, {Kind: api.SolFree, N: 2}, {Kind: api.SolChan, N: 3}, {Kind: api.SolPlace, N: 4}}, integers(most, -most, 0, -3)...)
}

func TestValue(t *testing.T) {
	most, least := num(api.TermMost), num(-api.TermMost)
	for i, c := range []struct {
		e    api.ScopeExp
		want string
	}{
		{num(5), "5"}, {num(-5), "-5"}, {most, "1000000000"}, {least, "-1000000000"}, {name(0), "7"}, {name(1), "f2"}, {name(2), "c3"}, {name(3), "p4"}, {name(4), "1000000000"}, {name(7), "-3"},
		{exp(api.TermAdd, num(2), num(3)), "5"}, {exp(api.TermSub, num(2), num(3)), "-1"}, {exp(api.TermMul, num(2), num(-3)), "-6"}, {exp(api.TermLess, num(2), num(3)), "1"}, {exp(api.TermSame, num(2), num(3)), "0"},
		{exp(api.TermLess, num(3), num(2)), "0"}, {exp(api.TermLess, num(3), num(3)), "0"}, {exp(api.TermSame, num(3), num(3)), "1"}, {exp(api.TermSame, name(7), num(-3)), "1"},
		// The nearest integer there is.
		{exp(api.TermAdd, most, num(1)), "1000000000"}, {exp(api.TermAdd, name(5), least), "-1000000000"}, {exp(api.TermSub, least, num(1)), "-1000000000"}, {exp(api.TermSub, most, least), "1000000000"}, {exp(api.TermMul, most, name(4)), "1000000000"}, {exp(api.TermMul, most, least), "-1000000000"}, {exp(api.TermMul, least, least), "1000000000"},
		{exp(api.TermAdd, exp(api.TermAdd, most, most), least), "0"}, {exp(api.TermMul, exp(api.TermMul, num(100000), num(100000)), num(-1)), "-1000000000"}, {exp(api.TermAdd, num(999999999), num(1)), "1000000000"},
		// What is no integer counts as 0, each for itself.
		{exp(api.TermAdd, name(1), num(5)), "5"}, {exp(api.TermSub, num(5), name(2)), "5"}, {exp(api.TermSub, name(3), num(5)), "-5"}, {exp(api.TermMul, name(2), num(5)), "0"}, {exp(api.TermMul, num(5), name(3)), "0"}, {exp(api.TermAdd, name(1), name(2)), "0"},
		{exp(api.TermLess, name(1), num(1)), "1"}, {exp(api.TermLess, num(-1), name(3)), "1"}, {exp(api.TermLess, name(1), name(2)), "0"}, {exp(api.TermSame, name(1), name(2)), "1"}, {exp(api.TermSame, name(2), num(0)), "1"}, {exp(api.TermSame, name(2), num(3)), "0"}, {exp(api.TermSame, name(3), name(6)), "1"},
		{exp(api.TermMul, exp(api.TermAdd, name(0), num(1)), exp(api.TermLess, name(7), name(6))), "8"},
	} {
		if v, e := sol.Value(c.e, vals()); e != api.OK || show.Val(v) != c.want {
			t.Error(i, show.Val(v), e)
		}
	}
	if v, e := sol.Value(num(1), nil); e != api.OK || v != integers(1)[0] {
		t.Error(v, e)
	}
	// Which free name, channel or place a number is, is not asked.
	for _, v := range []api.SolVal{{Kind: api.SolFree, N: -1}, {Kind: api.SolChan, N: math.MaxInt}, {Kind: api.SolPlace, N: math.MinInt}} {
		if w, e := sol.Value(name(1), append(integers(1), v)); e != api.OK || w != v {
			t.Error(v, w, e)
		}
	}
}

// chain is an expression of a depth, and full one of an odd number of nodes that is as
// little deep as can be.
func chain(depth int) api.ScopeExp {
	e := num(1)
	for range depth - 1 {
		e = exp(api.TermAdd, e, num(1))
	}
	return e
}

func full(nodes int) api.ScopeExp {
	if nodes == 1 {
		return num(1)
	}
	left := (nodes - 1) / 2
	left -= 1 - left%2
	return exp(api.TermAdd, full(left), full(nodes-1-left))
}

func TestValueNotFormed(t *testing.T) {
	for i, c := range []struct {
		e    api.ScopeExp
		want int
	}{{chain(12), 12}, {full(59), 30}} {
		if v, e := sol.Value(c.e, nil); e != api.OK || v != integers(c.want)[0] {
			t.Error(i, v, e)
		}
	}
	ring := []api.ScopeExp{num(1), num(1)}
	ring[0] = exp(api.TermAdd, ring...)
	ring[0].Kids = ring // it contains itself
	twice := num(1)     // 2^60 nodes that share memory
	for range 60 {
		twice = exp(api.TermAdd, twice, twice)
	}
	for i, e := range []api.ScopeExp{
		{}, {Op: -1}, {Op: 8}, exp(8, num(1), num(1)), num(1000000001), num(-1000000001), num(math.MinInt), name(-1), name(8), name(math.MaxInt), exp(api.TermSame, num(1), name(8)), exp(api.TermSame, name(-1), num(1)),
		exp(api.TermInt, num(1)), exp(api.TermName, num(1), num(1)), exp(api.TermAdd), exp(api.TermSub, num(1)), exp(api.TermMul, num(1), num(1), num(1)), exp(api.TermLess, num(1), api.ScopeExp{}), exp(api.TermLess, api.ScopeExp{Op: 9}, num(1)),
		{Op: api.TermSame, N: 1, Kids: []api.ScopeExp{num(1), num(1)}}, {Op: api.TermAdd, N: -1, Kids: []api.ScopeExp{num(1), num(1)}}, chain(13), full(61), ring[0], twice, exp(api.TermAdd, make([]api.ScopeExp, 1<<20)...),
	} {
		if v, err := sol.Value(e, vals()); err != api.ErrArg || v != (api.SolVal{}) {
			t.Error(i, v, err)
		}
	}
	for i, v := range []api.SolVal{{}, {Kind: -1, N: 1}, {Kind: 5}, {Kind: math.MaxInt}, {Kind: api.SolInt, N: 1000000001}, {Kind: api.SolInt, N: -1000000001}, {Kind: api.SolInt, N: math.MinInt}} {
		for _, env := range [][]api.SolVal{{v}, append(vals(), v), slices.Insert(vals(), 2, v)} {
			if v, e := sol.Value(num(1), env); e != api.ErrArg || v != (api.SolVal{}) {
				t.Error(i, v, e)
			}
		}
	}
}

// expression is one of at most a depth, for an environment of a size.
func (m *maker) expression(depth, size int) api.ScopeExp {
	switch n := m.IntN(6); {
	case n < 3 && depth > 1:
		return exp(api.TermAdd+api.TermSign(m.IntN(5)), m.expression(depth-1, size), m.expression(depth-1, size))
	case n == 3:
		return num([]int{0, 1, -1, 2, api.TermMost, -api.TermMost, m.IntN(100000)}[m.IntN(7)])
	}
	return name(m.IntN(size))
}

func TestValueByChance(t *testing.T) {
	m := newMaker(2)
	for range 20000 {
		env := vals()
		for range m.IntN(4) {
			env = append(env, integers(m.IntN(2001)-1000, m.IntN(2*api.TermMost+1)-api.TermMost)...)
		}
		e := m.expression(5, len(env))
		v, err := sol.Value(e, env)
		if want := plainValue(e, env); err != api.OK || v != want {
			t.Fatal(fmt.Sprint(e), show.Vals(env), v, want, err)
		}
	}
}
