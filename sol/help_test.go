package sol_test

import (
	"encoding/json"
	"math/rand/v2"
	"slices"
	"testing"

	"cabotage/api"
	"cabotage/sample"
	"cabotage/sol"
)

// example is the process P of the chapter.
const example = "def x(a) & y() = out(a) and place p { in stop } in x(1) | x(2) | y() | watch p; x(3)"

func bind(t *testing.T, source string) api.ScopeProg {
	t.Helper()
	p, e := sample.Bound(source)
	if e != api.OK {
		t.Fatalf("%s: error %d", source, e)
	}
	return p
}

func source(p api.ScopeProg) string { return sample.Source(p) }

// first is the solution of a program at first.
func first(t *testing.T, p api.ScopeProg) api.Sol {
	t.Helper()
	s, _, e := sol.First(p)
	if e != api.OK {
		t.Fatalf("%s: error %d", source(p), e)
	}
	return s
}

// after is the solution after a run from there.
func after(t *testing.T, p api.ScopeProg, picks ...int) api.Sol {
	t.Helper()
	s, _, e := sol.Run(p, first(t, p), picks)
	if e != api.OK {
		t.Fatalf("%s: error %d", source(p), e)
	}
	return s
}

// steps are all steps of a solution, as Nth returns them.
func steps(t *testing.T, p api.ScopeProg, s api.Sol) []api.SolStep {
	t.Helper()
	n, e := sol.Count(p, s)
	if e != api.OK {
		t.Fatalf("%s: error %d", source(p), e)
	}
	var l []api.SolStep
	for i := range n {
		x, e := sol.Nth(p, s, i)
		if e != api.OK {
			t.Fatalf("%s: error %d", source(p), e)
		}
		l = append(l, x)
	}
	return l
}

// copied is a value with memory of its own.
func copied[A any](a A) A {
	var b A
	text, _ := json.Marshal(a)
	json.Unmarshal(text, &b)
	return b
}

func name(n int) api.ScopeExp { return api.ScopeExp{Op: api.TermName, N: n} }

func num(n int) api.ScopeExp { return api.ScopeExp{Op: api.TermInt, N: n} }

func exp(op api.TermSign, kids ...api.ScopeExp) api.ScopeExp {
	return api.ScopeExp{Op: op, Kids: kids}
}

func node(op api.TermOp, n int, kids ...int) api.ScopeNode {
	return api.ScopeNode{Op: op, N: n, Kids: kids}
}

// integers are values.
func integers(l ...int) []api.SolVal {
	var vals []api.SolVal
	for _, n := range l {
		vals = append(vals, api.SolVal{Kind: api.SolInt, N: n})
	}
	return vals
}

// maker makes programs and solutions by chance.
type maker struct{ *rand.Rand }

func newMaker(seed uint64) *maker { return &maker{rand.New(rand.NewPCG(seed, 6))} }

func (m *maker) program() api.ScopeProg { return sample.Program(m.IntN, 5) }

// solutions calls f with the solutions of runs of programs made by chance.
func solutions(seed uint64, programs int, f func(m *maker, p api.ScopeProg, s api.Sol)) {
	m := newMaker(seed)
	for p, s := range sample.Solutions(m.IntN, programs) {
		f(m, p, s)
	}
}

func (m *maker) spoil(a any) { sample.Spoil(m.IntN, a) }

// formed calls f with solutions that are formed, most of them such that no run has.
func formed(t *testing.T, seed uint64, programs int, f func(m *maker, p api.ScopeProg, s api.Sol)) {
	t.Helper()
	m := newMaker(seed)
	n := 0
	for p, s := range sample.Formed(m.IntN, programs, func(p api.ScopeProg, s api.Sol) bool { return newPlain(p).isFormed(s) }) {
		n++
		f(m, p, s)
	}
	if n < 5*programs {
		t.Errorf("only %d solutions", n)
	}
}

// every is a list of one number, so many times.
func every(n, length int) []int { return slices.Repeat([]int{n}, length) }
