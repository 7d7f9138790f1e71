package scope

import (
	"iter"
	"maps"
	"slices"

	"cabotage/api"
)

// program is a program whose nodes are walked through.
type program struct{ api.ScopeProg }

// part is a node or an expression.
type part interface {
	// inside goes through the expressions that are parts of a part.
	inside(yield func(part) bool)
	// place returns the place in an environment that stands in a part itself, and
	// whether one does.
	place() (int, bool)
}

type node struct{ api.ScopeNode }

type expression struct{ api.ScopeExp }

func (n node) inside(yield func(part) bool) { within(n.Args, yield) }

func (e expression) inside(yield func(part) bool) { within(e.Kids, yield) }

func within(l []api.ScopeExp, yield func(part) bool) {
	for _, e := range l {
		if !yield(expression{e}) {
			return
		}
	}
}

func (n node) place() (int, bool) {
	switch n.Op {
	case api.TermSend, api.TermGo, api.TermWatch:
		return n.N, true
	}
	return 0, false
}

func (e expression) place() (int, bool) {
	if e.Op == api.TermName {
		return e.N, true
	}
	return 0, false
}

// parts goes through a part and all that is inside it, with their levels (1 for
// the part itself), a part before what is inside it.
func parts(p part) iter.Seq2[int, part] {
	return func(yield func(int, part) bool) {
		var visit func(level int, p part) bool
		visit = func(level int, p part) bool {
			if !yield(level, p) {
				return false
			}
			for q := range p.inside {
				if !visit(level+1, q) {
					return false
				}
			}
			return true
		}
		visit(1, p)
	}
}

// own goes through a node's own nodes, in order, each with how many places its
// environment has more than the node's.
func (p program) own(n api.ScopeNode) iter.Seq2[int, int] {
	return func(yield func(int, int) bool) {
		var d api.ScopeDef
		if n.Op == api.TermDef {
			d = p.Defs[n.N]
		}
		more := len(d.Chans) + len(d.Spots)
		for _, r := range d.Rules {
			if !yield(r.Node, more+brought(d, r)) {
				return
			}
		}
		for _, s := range d.Spots {
			if !yield(s.Node, more) {
				return
			}
		}
		for _, k := range n.Kids {
			if !yield(k, more) {
				return
			}
		}
	}
}

// brought returns how many values a rule's messages bring.
func brought(d api.ScopeDef, r api.ScopeRule) int {
	n := 0
	for _, c := range r.Joins {
		n += d.Chans[c].Many
	}
	return n
}

// walk goes through the nodes below a node, in order, each with the size of its
// environment. It asks nothing of a node before it has yielded it.
func (p program) walk(n, size int) iter.Seq2[int, int] {
	return func(yield func(int, int) bool) {
		var visit func(n, size int) bool
		visit = func(n, size int) bool {
			if !yield(n, size) {
				return false
			}
			for k, more := range p.own(p.Nodes[n]) {
				if !visit(k, size+more) {
					return false
				}
			}
			return true
		}
		visit(n, size)
	}
}

// below goes through the nodes below a node, in order.
func (p program) below(n int) iter.Seq[int] {
	return func(yield func(int) bool) {
		for k := range p.walk(n, 0) {
			if !yield(k) {
				return
			}
		}
	}
}

func (p program) sortedBelow(n int) []int { return slices.Sorted(p.below(n)) }

// needs returns what a node needs of its environment. A place has one number in
// all environments that have it, as they grow at their ends.
func (p program) needs(n, size int) []int {
	needed := map[int]bool{}
	for k := range p.below(n) {
		for _, q := range parts(node{p.Nodes[k]}) {
			if place, is := q.place(); is && place < size {
				needed[place] = true
			}
		}
	}
	return slices.Sorted(maps.Keys(needed))
}
