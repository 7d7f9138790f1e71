package flat_test

import (
	"encoding/json"
	"fmt"
	"math/rand/v2"
	"slices"
	"strings"
	"testing"

	"cabotage/api"
	"cabotage/flat"
	"cabotage/sample"
	"cabotage/show"
	"cabotage/sol"
)

// example is the process P of the chapter. In its program the TermDef is the node 0, the
// rule's node 1, the TermStop 2, and the TermGo 3.
const example = "def x(a) & y() = out(a) and place p { in stop } in go p; (x(1) | log(2))"

// loose is its flat program, but that the group takes log, and the TermStop x.
func loose(t *testing.T) api.FlatProg {
	t.Helper()
	f := flatOf(t, bind(t, example))
	f.Nodes[0].Take = []int{0, 1}
	f.Nodes[1].N, f.Nodes[1].Args[0].N = 1, 5
	f.Nodes[2].Take = []int{2}
	return f
}

// rich has each kind of processes, places in places, a definition in a rule and one in
// a place.
const rich = "def x(a, b) & y() = if a < 1 then (def w(c) & v() = (go b; c(a, out)) in w(out) | v()) else watch p; (stop | b(p))" +
	" and place p { z(k) = k(z) and place q { in def u() = go p; x(0, inp) in u() } in z(inp) | watch q; go r; 0 } and place r { in 0 }" +
	" in x(0, q) | (y() | go p; x(1, p))"

func bind(t *testing.T, source string) api.ScopeProg {
	t.Helper()
	p, e := sample.Bound(source)
	if e != api.OK {
		t.Fatalf("%s: error %d", source, e)
	}
	return p
}

func flatOf(t *testing.T, p api.ScopeProg) api.FlatProg {
	t.Helper()
	f, e := flat.Flat(p)
	if e != api.OK {
		t.Fatalf("%s: error %d", sample.Source(p), e)
	}
	return f
}

func open(t *testing.T, f api.FlatProg) api.ScopeProg {
	t.Helper()
	p, e := flat.Open(f)
	if e != api.OK {
		t.Fatalf("%s: error %d", showFlat(f), e)
	}
	return p
}

// text is any data as text.
func text(a any) string {
	s, _ := json.Marshal(a)
	return strings.ReplaceAll(string(s), "null", "[]")
}

// copied is a value with memory of its own.
func copied[A any](a A) A {
	var b A
	s, _ := json.Marshal(a)
	json.Unmarshal(s, &b)
	return b
}

// showFlat writes what a flat program takes: for Main, and behind a node's number for
// this; then where there is an N that is a place or an index, behind a sign, and those of
// its Args.
func showFlat(f api.FlatProg) string {
	out := fmt.Sprint(f.Take)
	for i, n := range f.Nodes {
		switch n.Op {
		case api.TermDef, api.TermStop:
			out += fmt.Sprint("; ", i, n.Take)
		case api.TermGo, api.TermWatch:
			out += fmt.Sprint("; ", i, n.Take, "!", n.N)
		case api.TermSend:
			out += fmt.Sprint("; ", i, "!", n.N, showArgs(n.Args))
		case api.TermIf:
			out += fmt.Sprint("; ", i, showArgs(n.Args))
		}
	}
	return out
}

func showArgs(l []api.ScopeExp) string {
	return "(" + show.All(l, " ", func(e api.ScopeExp) string {
		switch e.Op {
		case api.TermInt:
			return "_"
		case api.TermName:
			return fmt.Sprint(e.N)
		}
		return showArgs(e.Kids)
	}) + ")"
}

// first is the flat solution of a flat program at first.
func first(t *testing.T, f api.FlatProg) api.Sol {
	t.Helper()
	s, _, e := flat.First(f)
	if e != api.OK {
		t.Fatalf("%s: error %d", showFlat(f), e)
	}
	return s
}

// after is the flat solution after a run from there.
func after(t *testing.T, f api.FlatProg, picks ...int) api.Sol {
	t.Helper()
	s, _, e := flat.Run(f, first(t, f), picks)
	if e != api.OK {
		t.Fatalf("%s: error %d", showFlat(f), e)
	}
	return s
}

// nothing reports whether there are no results but an error.
func nothing(s api.Sol, l []api.SolEvent) bool { return text(s) == text(api.Sol{}) && len(l) == 0 }

// maker makes programs, flat programs and solutions by chance.
type maker struct{ *rand.Rand }

func newMaker(seed uint64) *maker { return &maker{rand.New(rand.NewPCG(seed, 7))} }

// flatten returns a flat program that is a program when it is opened, and takes what it
// needs and, by chance, more.
func (m *maker) flatten(p api.ScopeProg) api.FlatProg {
	q := plainly(p)
	takes := map[int][]int{}
	often := 1 + m.IntN(4)
	more := func(l, needed []int) []int {
		var out []int
		for _, place := range l {
			if slices.Contains(needed, place) || m.IntN(often) > 0 {
				out = append(out, place)
			}
		}
		return out
	}
	q.main = more(q.free(), q.all[p.Main])
	q.takes = func(n int) []int {
		if _, is := takes[n]; !is {
			takes[n] = more(q.list(n), q.needed(n))
		}
		return takes[n]
	}
	return q.flat()
}

// flats calls f with flat programs made by chance, the first ones of their programs and
// others.
func flats(seed uint64, programs int, f func(m *maker, p api.ScopeProg, f api.FlatProg)) {
	m := newMaker(seed)
	for range programs {
		p := sample.Program(m.IntN, 5)
		f(m, p, m.flatten(p))
	}
}

// solutions calls f with formed solutions made by chance, most of them such that no run
// has, and with a flat program of each program.
func solutions(t *testing.T, seed uint64, programs int, f func(m *maker, f api.FlatProg, p api.ScopeProg, s api.Sol)) {
	t.Helper()
	m := newMaker(seed)
	n := 0
	var of *api.ScopeNode
	var g api.FlatProg
	for p, s := range sample.Formed(m.IntN, programs, func(p api.ScopeProg, s api.Sol) bool { return sol.Check(p, s) == api.OK }) {
		n++
		if of != &p.Nodes[0] { // another program
			of, g = &p.Nodes[0], m.flatten(p)
		}
		f(m, g, p, s)
	}
	if n < 5*programs {
		t.Errorf("only %d solutions", n)
	}
}

// every is a list of one number, so many times.
func every(n, length int) []int { return slices.Repeat([]int{n}, length) }
