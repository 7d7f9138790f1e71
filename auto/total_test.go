package auto_test

import (
	"fmt"
	"reflect"
	"testing"

	"cabotage/api"
	"cabotage/auto"
	"cabotage/sample"
)

// P0.12, and the rules R2 to R4 and R8

// inputs are arguments of the functions.
type inputs struct {
	g           api.AutoGroup
	m           api.AutoMachine
	word        []api.AutoLetter
	come, picks []int
	tree        []api.AutoNode
	a, b        int
	first       bool
}

// inputs makes inputs that are as defined, but for numbers of states and sets.
func (m *maker) inputs(t *testing.T) inputs {
	t.Helper()
	g := m.group(3)
	l, _, _ := auto.Tree(g, 0, 0, m.IntN(2) > 0)
	return inputs{g: g, m: m.any(t, g), word: m.word(g, 9), come: m.below(g.Chans, 9), picks: m.below(9, 9), tree: l, a: m.IntN(3), b: m.IntN(3), first: m.IntN(2) > 0}
}

// ordinary are inputs that are as defined.
func ordinary(t *testing.T) inputs {
	t.Helper()
	return inputs{g: example(), m: automaton(t, five), word: word(t, "0/0"), come: []int{0, 1}, picks: []int{1}, tree: tree(t, full), a: 3, b: 1}
}

// all calls each function, and returns the results as text. It asks that there is
// nothing else with an error, and that each error is one that may be.
func all(t *testing.T, x inputs) string {
	t.Helper()
	out := ""
	check := func(what string, e api.Errno, results ...any) {
		t.Helper()
		if e != api.OK {
			for _, r := range results {
				if !reflect.ValueOf(r).IsZero() {
					t.Fatal(what, e, r)
				}
			}
		}
		if e != api.OK && e != api.ErrArg && (e != api.ErrRule || what != "Run") {
			t.Fatal(what, e)
		}
		out += fmt.Sprint(what, e, text(results), "; ")
	}
	check("Check", auto.Check(x.g))
	l, e := auto.Ready(x.g, x.a)
	check("Ready", e, l)
	l, e = auto.Rests(x.g)
	check("Rests", e, l)
	m, e := auto.Machine(x.g)
	check("Machine", e, m)
	check("Formed", auto.Formed(x.g, x.m))
	l, n, e := auto.Go(x.g, x.m, x.a, x.word)
	check("Go", e, l, n)
	m, l, e = auto.Least(x.g, x.m)
	check("Least", e, m, l)
	w, is, e := auto.Apart(x.g, x.m, x.a, x.b)
	check("Apart", e, w, is)
	l, left, e := auto.Run(x.g, x.m, x.come)
	check("Run", e, l, left)
	l, left, e = auto.Picked(x.g, x.come, x.picks)
	check("Picked", e, l, left)
	l, left, e = auto.Fair(x.g, x.come)
	check("Fair", e, l, left)
	nodes, n, e := auto.Tree(x.g, x.a, x.b, x.first)
	check("Tree", e, nodes, n)
	n, l, e = auto.Ask(x.g, x.tree, x.b)
	check("Ask", e, n, l)
	return out
}

// TestSpoilt: what has some things changed by chance has results, or an error and
// nothing else, and the same ones twice.
func TestSpoilt(t *testing.T) {
	m := newMaker(15)
	for range 2000 {
		x := m.inputs(t)
		for _, a := range []any{&x.g, &x.m, &x.word, &x.come, &x.picks, &x.tree} {
			if m.IntN(4) == 0 {
				sample.Spoil(m.IntN, a)
			}
		}
		for _, n := range []*int{&x.a, &x.b} {
			if m.IntN(4) == 0 {
				*n = []int{-1, 8, 64, 1 << 62, -1 << 63}[m.IntN(5)]
			}
		}
		if a, b := all(t, x), all(t, x); a != b {
			t.Fatal(a, b)
		}
	}
}

// TestAny: what is far from being as defined.
func TestAny(t *testing.T) {
	const n = 1 << 20
	for i, do := range []func(x *inputs){
		func(x *inputs) { *x = inputs{} }, func(x *inputs) { x.g.Chans = n }, func(x *inputs) { x.g.Rules = make([]int, n) }, func(x *inputs) { x.m.States = make([][]api.AutoAct, n) }, func(x *inputs) { x.m.States[0] = make([]api.AutoAct, n) },
		func(x *inputs) { x.m.States[0][0].Next = make([]int, n) }, func(x *inputs) { x.word = make([]api.AutoLetter, n) }, func(x *inputs) { x.come = make([]int, n) }, func(x *inputs) { x.picks = make([]int, n) }, func(x *inputs) { x.tree = make([]api.AutoNode, n) },
	} {
		x := ordinary(t)
		do(&x)
		if all(t, x) != all(t, x) {
			t.Error(i, "other results")
		}
	}
	for _, g := range bad() {
		x := ordinary(t)
		x.g = g
		if all(t, x) != all(t, x) {
			t.Error(g, "other results")
		}
	}
}

func TestMemory(t *testing.T) {
	m := newMaker(16)
	for range 300 {
		x := m.inputs(t)
		x.a, x.b = 0, len(x.m.States)-1
		before := fmt.Sprint(x)
		r1, _ := auto.Rests(x.g)
		r2, _ := auto.Ready(x.g, x.a)
		m3, _ := auto.Machine(x.g)
		l4, _, _ := auto.Go(x.g, x.m, x.a, x.word)
		m5, l5, _ := auto.Least(x.g, x.m)
		w6, _, _ := auto.Apart(x.g, x.m, x.a, x.b)
		l7, k7, _ := auto.Run(x.g, x.m, x.come)
		l8, k8, _ := auto.Picked(x.g, x.come, x.picks)
		l9, k9, _ := auto.Fair(x.g, x.come)
		t10, _, _ := auto.Tree(x.g, 0, 0, x.first)
		_, l11, _ := auto.Ask(x.g, x.tree, x.a)
		if !sample.Apart(&x.g, &x.m, &x.word, &x.come, &x.picks, &x.tree, &r1, &r2, &m3, &l4, &m5, &l5, &w6, &l7, &k7, &l8, &k8, &l9, &k9, &t10, &l11) {
			t.Fatal(before, "memory is shared")
		}
		if before != fmt.Sprint(x) {
			t.Fatal(before, "an argument changed")
		}
	}
}
