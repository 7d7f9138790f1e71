package sample_test

import (
	"math/rand/v2"
	"reflect"
	"testing"

	"cabotage/api"
	"cabotage/sample"
	"cabotage/scope"
)

func chance(seed uint64) *rand.Rand { return rand.New(rand.NewPCG(seed, 0)) }

func TestProgram(t *testing.T) {
	m := chance(1)
	ops, outOfOrder := map[api.TermOp]int{}, 0
	for range 2000 {
		chans := m.IntN(6)
		p := sample.Program(m.IntN, chans)
		if e := scope.Check(p); e != api.OK || p.Nodes[p.Main].Op != api.TermDef {
			t.Fatal(p, e)
		}
		for _, d := range p.Defs {
			if len(d.Chans) > chans {
				t.Fatal(p)
			}
		}
		for _, n := range p.Nodes {
			ops[n.Op]++
		}
		if is, _ := scope.InOrder(p); !is {
			outOfOrder++
		}
	}
	for op := api.TermNil; op <= api.TermWatch; op++ {
		if ops[op] < 500 {
			t.Error(op, ops)
		}
	}
	if outOfOrder < 500 {
		t.Error("only", outOfOrder)
	}
}

// TestAnyChance: there is a program whatever chance says, and the same one for the
// same chance.
func TestAnyChance(t *testing.T) {
	for k := range 16 {
		p := sample.Program(func(n int) int { return min(k, n-1) }, 30)
		if e := scope.Check(p); e != api.OK {
			t.Error(k, p, e)
		}
	}
	for seed := range uint64(50) {
		if a, b := sample.Program(chance(seed).IntN, 5), sample.Program(chance(seed).IntN, 5); !reflect.DeepEqual(a, b) {
			t.Error(a, b)
		}
	}
}

func TestRenumbered(t *testing.T) {
	m := chance(2)
	for range 500 {
		p := sample.Program(m.IntN, 5)
		nodes, defs := m.Perm(len(p.Nodes)), m.Perm(len(p.Defs))
		q := sample.Renumbered(p, nodes, defs)
		// The numbers are of no account for what it is.
		u, e := scope.Term(p)
		if v, f := scope.Term(q); !reflect.DeepEqual(u, v) || e != f || scope.Check(q) != api.OK {
			t.Fatal(p, q, e, f)
		}
		if q.Main != nodes[p.Main] || q.Nodes[q.Main].N != defs[p.Nodes[p.Main].N] {
			t.Fatal(p, q)
		}
		// Back again it is the program, though the other one has changed.
		inverse := func(l []int) []int {
			out := make([]int, len(l))
			for i, n := range l {
				out[n] = i
			}
			return out
		}
		back := sample.Renumbered(q, inverse(nodes), inverse(defs))
		for i := range q.Nodes {
			clear(q.Nodes[i].Kids)
			for _, e := range q.Nodes[i].Args {
				clear(e.Kids)
			}
			clear(q.Nodes[i].Args)
		}
		for i := range q.Defs {
			clear(q.Defs[i].Rules)
			clear(q.Defs[i].Spots)
		}
		if w, f := scope.Term(back); !reflect.DeepEqual(u, w) || e != f {
			t.Fatal(p, back)
		}
	}
}

func TestSend(t *testing.T) {
	m := chance(3)
	env := []int{sample.Anything, 2, sample.Place, 0}
	fits := 0
	for range 1000 {
		n := sample.Send(m.IntN, env)
		p := api.ScopeProg{Free: []string{"a", "b", "c", "d"}, Nodes: []api.ScopeNode{n}}
		if e := scope.Check(p); e != api.OK || n.Op != api.TermSend {
			t.Fatal(n, e)
		}
		if env[n.N] == len(n.Args) {
			fits++
		}
	}
	if fits < 700 {
		t.Error("only", fits)
	}
}
