package flat

import (
	"maps"
	"slices"

	"cabotage/api"
	"cabotage/list"
	"cabotage/scope"
)

// least returns the flat program of a formed program.
func least(p api.ScopeProg) api.FlatProg {
	sizes, _ := scope.Sizes(p)
	needs, _ := scope.Needs(p)
	take := func(n int, _ []int) []int {
		if p.Nodes[n].Op == api.TermDef {
			return heldBy(p.Defs[p.Nodes[n].N], needs, sizes[n])
		}
		return needs[n]
	}
	all := lists(p, sizes, needs[p.Main], take)
	p = copied(p)
	f := api.FlatProg{Free: p.Free, Take: slices.Clone(needs[p.Main]), Defs: p.Defs, Main: p.Main}
	for i, n := range p.Nodes {
		var places []int
		if takes(n.Op) {
			places = take(i, all[i])
		}
		n = renumbered(n, index(all[i]), index(places))
		f.Nodes = append(f.Nodes, api.FlatNode{Op: n.Op, N: n.N, Args: n.Args, Kids: n.Kids, Take: list.Each(places, index(all[i]))})
	}
	return f
}

// index returns a function that finds the index of what a list has.
func index[A comparable](l []A) func(A) int {
	return func(a A) int { return slices.Index(l, a) }
}

// heldBy returns the places of the environment around a definition that its rules and
// its places need, whose nodes need what is given; that environment has a size.
func heldBy(d api.ScopeDef, needs [][]int, size int) []int {
	held := map[int]bool{}
	need := func(n int) {
		for _, place := range needs[n] {
			if place < size {
				held[place] = true
			}
		}
	}
	for _, r := range d.Rules {
		need(r.Node)
	}
	for _, s := range d.Spots {
		need(s.Node)
	}
	return slices.Sorted(maps.Keys(held))
}

// total returns how many places are taken.
func total(f api.FlatProg) int {
	n := len(f.Take)
	for _, node := range f.Nodes {
		n += len(node.Take)
	}
	return n
}
