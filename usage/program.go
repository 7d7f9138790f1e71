package usage

import (
	"iter"

	"cabotage/api"
	"cabotage/list"
	"cabotage/scope"
)

// channel is a channel of a definition, by their numbers.
type channel struct{ def, index int }

// program is a formed program, and what is known of its nodes.
type program struct {
	api.ScopeProg
	sizes   []int             // of the nodes' environments
	below   [][]int           // the nodes below each node, itself among them
	denoted []map[int]channel // what the places of each node's environment denote
	at      []int             // the TermDef of each definition
}

// lookInto returns a program with what is known of it, or ErrArg if it is not
// formed.
func lookInto(p api.ScopeProg) (program, api.Errno) {
	sizes, e := scope.Sizes(p)
	if e != api.OK {
		return program{}, e
	}
	below, _ := scope.Below(p) // which asks of a program what Sizes asks
	q := program{p, sizes, below, make([]map[int]channel, len(p.Nodes)), make([]int, len(p.Defs))}
	for n := range p.Nodes {
		q.denoted[n] = map[int]channel{}
	}
	for n, node := range p.Nodes {
		if node.Op == api.TermDef {
			q.at[node.N] = n
			q.denote(n)
		}
	}
	return q, api.OK
}

// denote notes what the places denote that a TermDef adds as those of its channels.
// They have the same numbers in all environments within it.
func (p program) denote(n int) {
	def := p.Nodes[n].N
	for k := range p.within(n) {
		for i := range p.Defs[def].Chans {
			p.denoted[k][p.sizes[n]+i] = channel{def, i}
		}
	}
}

// within goes through the nodes below a node, but for itself.
func (p program) within(n int) iter.Seq[int] {
	return func(yield func(int) bool) {
		for _, k := range p.below[n] {
			if k != n && !yield(k) {
				return
			}
		}
	}
}

// has reports whether there is a node with a place in its environment.
func (p program) has(node, place int) bool {
	return 0 <= node && node < len(p.Nodes) && 0 <= place && place < p.sizes[node]
}

// takes returns how many values a channel's messages bring.
func (p program) takes(c channel) int { return p.Defs[c.def].Chans[c.index].Many }

// first returns the nodes that are done with a TermDef, in any case: its Kid, and
// what is in its places.
func (p program) first(n int) []int {
	node := p.Nodes[n]
	inSpots := list.Each(p.Defs[node.N].Spots, func(s api.ScopeSpot) int { return s.Node })
	return append(inSpots, node.Kids...)
}

// sure returns what a node sends for sure to a place of its environment.
func (p program) sure(node, place int) int {
	n := p.Nodes[node]
	switch n.Op {
	case api.TermSend:
		c, known := p.denoted[node][place]
		if n.N == place && known && len(n.Args) == p.takes(c) {
			return 1
		}
	case api.TermPar:
		return p.sureOfAll(n.Kids, place)
	case api.TermIf:
		return min(p.sure(n.Kids[0], place), p.sure(n.Kids[1], place))
	case api.TermDef:
		return p.sureOfAll(p.first(node), place)
	}
	return 0
}

func (p program) sureOfAll(nodes []int, place int) int {
	total := 0
	for _, n := range nodes {
		total += p.sure(n, place)
	}
	return total
}

// surely returns what is sent for sure to a channel with the TermDef that makes it.
func (p program) surely(def, index int) int {
	at := p.at[def]
	return p.sureOfAll(p.first(at), p.sizes[at]+index)
}
