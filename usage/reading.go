package usage

import (
	"cabotage/api"
	"cabotage/list"
)

// reading is a program with the counts by which it is read.
type reading struct {
	program
	counts []counts
}

// readBy returns a program read by a table, or ErrArg if one of them is not as
// defined.
func readBy(p api.ScopeProg, t []api.UsageDef) (reading, api.Errno) {
	q, e := lookInto(p)
	if e != api.OK {
		return reading{}, e
	}
	if len(t) != len(p.Defs) {
		return reading{}, api.ErrArg
	}
	for d, u := range t {
		if !fits(p.Defs[d], u) {
			return reading{}, api.ErrArg
		}
	}
	return reading{q, list.Each(t, counting)}, api.OK
}

// sends returns the sends of a node to a place of its environment.
func (r reading) sends(node, place int) count {
	n := r.Nodes[node]
	switch n.Op {
	case api.TermSend:
		return r.message(node, place)
	case api.TermPar, api.TermGo, api.TermWatch:
		return r.together(n.Kids, place, count.plus)
	case api.TermIf:
		return r.together(n.Kids, place, count.or)
	case api.TermDef:
		return r.inner(node, place)
	}
	return none
}

// together returns the sends of some nodes, put together in some way.
func (r reading) together(nodes []int, place int, with func(count, count) count) count {
	total := none
	for _, n := range nodes {
		total = with(total, r.sends(n, place))
	}
	return total
}

// message returns the sends of a TermSend: its own one, and those by who gets the
// place as a value.
func (r reading) message(node, place int) count {
	n := r.Nodes[node]
	to, known := r.denoted[node][n.N]
	if known && r.takes(to) != len(n.Args) {
		return none
	}
	total := none
	if n.N == place {
		total = one
	}
	for i, a := range n.Args {
		switch {
		case a.Op != api.TermName || a.N != place:
		case known:
			total = total.plus(r.counts[to.def].args[to.index][i])
		default:
			total = total.plus(many)
		}
	}
	return total
}

// inner returns the inner sends of a TermDef to a place of its Kid's environment.
func (r reading) inner(node, place int) count {
	def := r.Nodes[node].N
	total := r.together(r.first(node), place, count.plus)
	for i, rule := range r.Defs[def].Rules {
		total = total.plus(r.counts[def].rules[i].times(r.sends(rule.Node, place)))
	}
	return total
}
