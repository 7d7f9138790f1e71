package infer

import (
	"iter"

	"cabotage/list"
)

// nodes goes through the nodes of a type, in order, each as often as it stands
// there.
func nodes(t *node) iter.Seq[*node] {
	return func(yield func(*node) bool) {
		var visit func(n *node) bool
		visit = func(n *node) bool {
			n = n.end()
			if !yield(n) {
				return false
			}
			for _, k := range n.kids() {
				if !visit(k) {
					return false
				}
			}
			return true
		}
		visit(t)
	}
}

// variables goes through the variables of a type, in the order in which they first
// stand there, each once. It looks at each node once: types may be far larger than
// the memory that they take.
func variables(t *node) iter.Seq[*node] {
	return func(yield func(*node) bool) {
		seen := map[*node]bool{}
		var visit func(n *node) bool
		visit = func(n *node) bool {
			n = n.end()
			if seen[n] {
				return true
			}
			seen[n] = true
			if _, is := n.kind.(open); is {
				return yield(n)
			}
			for _, k := range n.kids() {
				if !visit(k) {
					return false
				}
			}
			return true
		}
		visit(t)
	}
}

// instance returns a type in which some variables have become new ones.
func instance(t *node, general map[*node]bool) *node {
	if len(general) == 0 {
		return t
	}
	made := map[*node]*node{}
	var visit func(n *node) *node
	visit = func(n *node) *node {
		n = n.end()
		if m, is := made[n]; is {
			return m
		}
		m := n
		switch k := n.kind.(type) {
		case open:
			if general[n] {
				m = typed(open{})
			}
		case channel:
			m = typed(channel{list.Each(k.brings, visit)})
		}
		made[n] = m
		return m
	}
	return visit(t)
}
