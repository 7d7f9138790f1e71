package scope

import (
	"iter"

	"cabotage/api"
)

// inOrder reports whether a formed program is in order.
func (p program) inOrder() bool {
	if !p.numbered() || len(p.needs(p.Main, len(p.Free))) < len(p.Free) {
		return false
	}
	for _, d := range p.Defs {
		if !rulesInOrder(d) || !spotsInOrder(d) {
			return false
		}
	}
	return true
}

// numbered reports whether nodes and definitions have their numbers in order.
func (p program) numbered() bool {
	nodes, defs := 0, 0
	for n := range p.below(p.Main) {
		if n != nodes {
			return false
		}
		nodes++
		if p.Nodes[n].Op != api.TermDef {
			continue
		}
		if p.Nodes[n].N != defs {
			return false
		}
		defs++
	}
	return true
}

// rulesInOrder reports whether rules and channels are in order. Where rules come
// by their places, channels do so in the order in which they first stand in them.
func rulesInOrder(d api.ScopeDef) bool {
	at, next := 0, 0
	for _, r := range d.Rules {
		if r.At < at {
			return false
		}
		at = r.At
		for _, c := range r.Joins {
			if c > next {
				return false
			}
			next = max(next, c+1)
		}
	}
	return true
}

func spotsInOrder(d api.ScopeDef) bool {
	next := 1
	for place := range placesOf(d) {
		if place != next {
			return false
		}
		next++
	}
	return true
}

// placesOf goes through the places of a definition in the order in which they stand
// in its Defs.
func placesOf(d api.ScopeDef) iter.Seq[int] {
	return func(yield func(int) bool) {
		var visit func(in int) bool
		visit = func(in int) bool {
			for i, s := range d.Spots {
				if s.In == in && (!yield(i+1) || !visit(i+1)) {
					return false
				}
			}
			return true
		}
		visit(0)
	}
}
