package flat_test

import (
	"slices"

	"cabotage/api"
	"cabotage/scope"
	"cabotage/sol"
)

// The definitions of the chapter once more, read plainly: the list of a node is looked
// for from below, by what stands above the node, again and again, and what takes the
// least is found by leaving out places as long as this can be done.

// plain is a program with what is taken: places, not their indices.
type plain struct {
	api.ScopeProg // the Ns may be indices
	main          []int
	takes         func(n int) []int
	all           [][]int // what nodes need
}

// plainly is a program of which nothing is taken so far.
func plainly(p api.ScopeProg) plain {
	needs, _ := scope.Needs(p)
	return plain{ScopeProg: p, all: needs}
}

// plainOf is a flat program so. What is not formed panics.
func plainOf(f api.FlatProg) plain {
	q := plain{ScopeProg: api.ScopeProg{Free: f.Free, Defs: f.Defs, Main: f.Main}}
	for _, n := range f.Nodes {
		q.Nodes = append(q.Nodes, api.ScopeNode{Op: n.Op, N: n.N, Args: n.Args, Kids: n.Kids})
	}
	q.main = rising(q.free(), f.Take)
	q.takes = func(n int) []int { return rising(q.list(n), f.Nodes[n].Take) }
	return q
}

func rising(l, indices []int) []int {
	var out []int
	for _, i := range indices {
		out = append(out, l[i])
	}
	for i := 1; i < len(out); i++ {
		if indices[i-1] >= indices[i] {
			panic("not rising")
		}
	}
	return out
}

// places are so many ones behind others.
func places(ahead, many int) []int {
	if many > 1000 {
		panic("more than any definition may have")
	}
	l := make([]int, many)
	for i := range l {
		l[i] = ahead + i
	}
	return l
}

func (q plain) free() []int { return places(0, len(q.Free)) }

// defined is how much a definition defines.
func (q plain) defined(n int) int {
	d := q.Defs[q.Nodes[n].N]
	return len(d.Chans) + len(d.Spots)
}

// brings is how many values a rule's messages bring.
func (q plain) brings(d api.ScopeDef, r api.ScopeRule) int {
	many := 0
	for _, c := range r.Joins {
		many += d.Chans[c].Many
	}
	return many
}

// above calls the function that is meant for how a node stands below another one: as the
// Kid of one, as the node of a Spot, or as that of a rule that brings some values.
func (q plain) above(n int, kid, spot func(m int), rule func(m, many int)) {
	for m, at := range q.Nodes {
		if slices.Contains(at.Kids, n) {
			kid(m)
			return
		}
		if at.Op != api.TermDef {
			continue
		}
		d := q.Defs[at.N]
		for _, s := range d.Spots {
			if s.Node == n {
				spot(m)
				return
			}
		}
		for _, r := range d.Rules {
			if r.Node == n {
				rule(m, q.brings(d, r))
				return
			}
		}
	}
	panic("nothing above it")
}

// size is that of a node's environment.
func (q plain) size(n int) int {
	if n == q.Main {
		return len(q.Free)
	}
	size := 0
	q.above(n, func(m int) {
		size = q.size(m)
		if q.Nodes[m].Op == api.TermDef {
			size += q.defined(m)
		}
	}, func(m int) { size = q.size(m) + q.defined(m) }, func(m, many int) { size = q.size(m) + q.defined(m) + many })
	return size
}

// list is that of a node.
func (q plain) list(n int) []int {
	if n == q.Main {
		return q.main
	}
	var l []int
	q.above(n, func(m int) {
		switch q.Nodes[m].Op {
		case api.TermDef:
			l = slices.Concat(q.list(m), places(q.size(m), q.defined(m)))
		case api.TermGo, api.TermWatch:
			l = q.takes(m)
		default:
			l = q.list(m)
		}
	}, func(m int) {
		l = slices.Concat(q.takes(m), places(q.size(m), q.defined(m)))
	}, func(m, many int) {
		l = slices.Concat(q.takes(m), places(q.size(m), q.defined(m)+many))
	})
	return l
}

func isTaker(op api.TermOp) bool {
	return slices.Contains([]api.TermOp{api.TermDef, api.TermGo, api.TermStop, api.TermWatch}, op)
}

// tree reports whether each node can be reached from below without a ring.
func (q plain) tree() bool {
	for n := range q.Nodes {
		for range len(q.Nodes) + 1 {
			up := func(m int) { n = m }
			if n != q.Main {
				q.above(n, up, up, func(m, _ int) { n = m })
			}
		}
		if n != q.Main {
			return false
		}
	}
	return true
}

// opened is what a flat program is when it is opened. What is not formed panics.
func opened(f api.FlatProg) api.ScopeProg {
	q := plainOf(f)
	if !q.tree() {
		panic("no tree")
	}
	p := copied(q.ScopeProg)
	for i, n := range f.Nodes {
		list := q.list(i)
		switch {
		case n.Op == api.TermSend:
			p.Nodes[i].N = list[n.N]
		case isTaker(n.Op) && n.Op != api.TermDef && n.Op != api.TermStop:
			p.Nodes[i].N = q.takes(i)[n.N]
		}
		if isTaker(n.Op) {
			q.takes(i) // what it says is right
		} else if len(n.Take) > 0 {
			panic("it takes nothing")
		}
		p.Nodes[i].Args = replaced(p.Nodes[i].Args, func(n int) int { return list[n] })
	}
	if scope.Check(p) != api.OK {
		panic("not formed")
	}
	return p
}

// replaced are expressions with other numbers of their names.
func replaced(l []api.ScopeExp, by func(int) int) []api.ScopeExp {
	var out []api.ScopeExp
	for _, e := range l {
		if e.Op == api.TermName {
			e.N = by(e.N)
		}
		e.Kids = replaced(e.Kids, by)
		out = append(out, e)
	}
	return out
}

func isFormed(f api.FlatProg) (is bool) {
	defer func() { recover() }() // whatever goes wrong
	opened(f)
	return true
}

// flat is the flat program of a program that takes what is said. Where a place is not in
// its list the index is -1.
func (q plain) flat() api.FlatProg {
	p := copied(q.ScopeProg)
	f := api.FlatProg{Free: p.Free, Take: slices.Clone(q.main), Defs: p.Defs, Main: p.Main}
	for i, n := range p.Nodes {
		l := q.list(i)
		in := func(l []int) func(int) int { return func(place int) int { return slices.Index(l, place) } }
		m := api.FlatNode{Op: n.Op, N: n.N, Args: replaced(n.Args, in(l)), Kids: n.Kids}
		if isTaker(n.Op) {
			for _, place := range q.takes(i) {
				m.Take = append(m.Take, in(l)(place))
			}
		}
		switch n.Op {
		case api.TermSend:
			m.N = in(l)(n.N)
		case api.TermGo, api.TermWatch:
			m.N = in(q.takes(i))(n.N)
		}
		f.Nodes = append(f.Nodes, m)
	}
	return f
}

// needed is what a node that takes something is to take at least.
func (q plain) needed(n int) []int {
	if q.Nodes[n].Op != api.TermDef {
		return q.all[n]
	}
	var l []int
	d := q.Defs[q.Nodes[n].N]
	for _, s := range d.Spots {
		l = append(l, q.all[s.Node]...)
	}
	for _, r := range d.Rules {
		l = append(l, q.all[r.Node]...)
	}
	return slices.DeleteFunc(l, func(place int) bool { return place >= q.size(n) })
}

// leastOf is the flat program of a program: at first all is taken, then what can be left
// out is left out, from inside outwards, until nothing more can be.
func leastOf(p api.ScopeProg) api.FlatProg {
	q := plainly(p)
	taken := map[int][]int{}
	q.takes = func(n int) []int {
		if _, is := taken[n]; !is {
			return q.list(n)
		}
		return taken[n]
	}
	q.main = q.free()
	for n := range p.Nodes {
		if isTaker(p.Nodes[n].Op) {
			taken[n] = places(0, q.size(n))
		}
	}
	for again := true; again; {
		again = false
		for n, l := range taken {
			for i := len(l) - 1; i >= 0; i-- {
				before := taken[n]
				taken[n] = slices.Delete(slices.Clone(before), i, i+1)
				if isFormed(q.flat()) {
					again = true
				} else {
					taken[n] = before
				}
			}
		}
		for i := len(q.main) - 1; i >= 0; i-- {
			before := q.main
			q.main = slices.Delete(slices.Clone(before), i, i+1)
			if isFormed(q.flat()) {
				again = true
			} else {
				q.main = before
			}
		}
	}
	return q.flat()
}

// taken is what a flat program takes, in places: for Main, and for each node.
func taken(f api.FlatProg) [][]int {
	q := plainOf(f)
	l := [][]int{q.main}
	for n := range f.Nodes {
		var places []int
		if isTaker(f.Nodes[n].Op) {
			places = q.takes(n)
		}
		l = append(l, places)
	}
	return l
}

// holds are the places whose values stand in an Env of a flat solution, for the node of
// a process that waits, or the TermDef of a group, and the size of the whole one.
func (q plain) holds(n int) ([]int, int) {
	l, size := q.takes(n), q.size(n)
	if q.Nodes[n].Op == api.TermDef {
		l = slices.Concat(l, places(size, q.defined(n)))
		size += q.defined(n)
	}
	return l, size
}

// envs calls f with each Env of a solution, and its node.
func (q plain) envs(s *api.Sol, f func(n int, env *[]api.SolVal)) {
	for i, g := range s.Groups {
		is := func(n api.ScopeNode) bool { return n.Op == api.TermDef && n.N == g.Def }
		f(slices.IndexFunc(q.Nodes, is), &s.Groups[i].Env)
	}
	for i, w := range s.Waits {
		f(w.Node, &s.Waits[i].Env)
	}
}

// filled is a flat solution filled. What has other lengths panics.
func filled(f api.FlatProg, s api.Sol) api.Sol {
	q := plainOf(f)
	s = copied(s)
	q.envs(&s, func(n int, env *[]api.SolVal) {
		places, size := q.holds(n)
		if len(*env) != len(places) || !isTaker(q.Nodes[n].Op) {
			panic("another length")
		}
		full := make([]api.SolVal, size)
		for i := range full {
			full[i].Kind = api.SolInt
			if j := slices.Index(places, i); j >= 0 {
				full[i] = (*env)[j]
			}
		}
		*env = full
	})
	return s
}

// flattened is the flat solution of a solution.
func flattened(f api.FlatProg, s api.Sol) api.Sol {
	q := plainOf(f)
	s = copied(s)
	q.envs(&s, func(n int, env *[]api.SolVal) {
		places, _ := q.holds(n)
		var kept []api.SolVal
		for i, v := range *env {
			if slices.Contains(places, i) {
				kept = append(kept, v)
			}
		}
		*env = kept
	})
	return s
}

func isFormedSol(f api.FlatProg, s api.Sol) (is bool) {
	defer func() { recover() }() // whatever goes wrong
	return sol.Check(opened(f), filled(f, s)) == api.OK
}
