package flat

import (
	"slices"

	"cabotage/api"
	"cabotage/list"
	"cabotage/scope"
)

// unformed is what a flat program panics with that is not formed.
type unformed struct{}

// program is a formed flat program.
type program struct {
	api.FlatProg
	bare   api.ScopeProg // all of it but what is taken
	opened api.ScopeProg // what it is when it is opened
	sizes  []int         // of the environments of nodes
	lists  [][]int       // of nodes
	makers []int         // by definitions, their TermDefs
}

// lookInto returns a flat program with what is to be known of it, or ErrArg if it is
// not formed.
func lookInto(f api.FlatProg) (q program, e api.Errno) {
	defer func() {
		if r := recover(); r != nil {
			if _, is := r.(unformed); !is {
				panic(r)
			}
			q, e = program{}, api.ErrArg
		}
	}()
	q = program{FlatProg: f, bare: bare(f), makers: make([]int, len(f.Defs))}
	// No list is longer than the environment of its node, so that all indices are
	// places of this, too: what is not formed as it stands is not formed at all.
	q.sizes, e = scope.Sizes(q.bare)
	if e != api.OK {
		return program{}, e
	}
	main := picked(between(0, len(f.Free)), f.Take)
	q.lists = lists(q.bare, q.sizes, main, func(n int, l []int) []int { return picked(l, f.Nodes[n].Take) })
	q.open()
	return q, api.OK
}

func bare(f api.FlatProg) api.ScopeProg {
	nodes := list.Each(f.Nodes, func(n api.FlatNode) api.ScopeNode {
		return api.ScopeNode{Op: n.Op, N: n.N, Args: n.Args, Kids: n.Kids}
	})
	return api.ScopeProg{Free: f.Free, Nodes: nodes, Defs: f.Defs, Main: f.Main}
}

// open opens a flat program whose lists are known.
func (q *program) open() {
	q.opened = copied(q.bare)
	for i, n := range q.bare.Nodes {
		if n.Op == api.TermDef {
			q.makers[n.N] = i
		}
		if !takes(n.Op) && len(q.Nodes[i].Take) > 0 {
			panic(unformed{})
		}
		q.opened.Nodes[i] = renumbered(n, standing(q.lists[i]), standing(q.taken(i)))
	}
}

// taken returns the places that a node takes.
func (q *program) taken(n int) []int { return picked(q.lists[n], q.Nodes[n].Take) }

// takes reports whether processes of a kind take something.
func takes(op api.TermOp) bool { return op == api.TermDef || waits(op) }

// waits reports whether processes of a kind wait.
func waits(op api.TermOp) bool {
	return op == api.TermGo || op == api.TermStop || op == api.TermWatch
}

// picked returns what stands at some indices of a list, which rise.
func picked[A any](l []A, at []int) []A {
	var out []A
	stands := standing(l)
	for i, n := range at {
		if i > 0 && at[i-1] >= n {
			panic(unformed{})
		}
		out = append(out, stands(n))
	}
	return out
}

// standing returns a function that says what stands at an index of a list.
func standing[A any](l []A) func(int) A {
	return func(i int) A {
		if !list.Numbered(i, len(l)) {
			panic(unformed{})
		}
		return l[i]
	}
}

// between returns the numbers from one on to below another one.
func between(from, to int) []int {
	var l []int
	for n := from; n < to; n++ {
		l = append(l, n)
	}
	return l
}

// lists returns the list of each node of a formed program, if Main has the given one,
// and take returns what a node takes of its own.
func lists(p api.ScopeProg, sizes, main []int, take func(n int, l []int) []int) [][]int {
	all := make([][]int, len(p.Nodes))
	var visit func(n int, l []int)
	visit = func(n int, l []int) {
		all[n] = l
		at := p.Nodes[n]
		if waits(at.Op) {
			l = take(n, l)
		}
		if at.Op == api.TermDef {
			inner := sizes[at.Kids[0]]
			own := between(sizes[n], inner)
			group := slices.Concat(take(n, l), own)
			for _, r := range p.Defs[at.N].Rules {
				visit(r.Node, slices.Concat(group, between(inner, sizes[r.Node])))
			}
			for _, s := range p.Defs[at.N].Spots {
				visit(s.Node, group)
			}
			l = slices.Concat(l, own)
		}
		for _, k := range at.Kids {
			visit(k, l)
		}
	}
	visit(p.Main, main)
	return all
}

// renumbered returns a node in which those numbers are others that stand for places:
// of its own environment, or of what it takes.
func renumbered(n api.ScopeNode, own, take func(int) int) api.ScopeNode {
	switch n.Op {
	case api.TermSend:
		n.N = own(n.N)
	case api.TermGo, api.TermWatch:
		n.N = take(n.N)
	}
	n.Args = list.Each(n.Args, func(e api.ScopeExp) api.ScopeExp { return renumberedExp(e, own) })
	n.Kids = slices.Clone(n.Kids)
	return n
}

func renumberedExp(e api.ScopeExp, own func(int) int) api.ScopeExp {
	if e.Op == api.TermName {
		e.N = own(e.N)
	}
	e.Kids = list.Each(e.Kids, func(k api.ScopeExp) api.ScopeExp { return renumberedExp(k, own) })
	return e
}

// copied returns a program in memory of its own, but for what is in its nodes.
func copied(p api.ScopeProg) api.ScopeProg {
	p.Free, p.Nodes = slices.Clone(p.Free), slices.Clone(p.Nodes)
	p.Defs = list.Each(p.Defs, func(d api.ScopeDef) api.ScopeDef {
		rules := list.Each(d.Rules, func(r api.ScopeRule) api.ScopeRule {
			r.Joins = slices.Clone(r.Joins)
			return r
		})
		return api.ScopeDef{Chans: slices.Clone(d.Chans), Spots: slices.Clone(d.Spots), Rules: rules}
	})
	return p
}
