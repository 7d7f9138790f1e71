package sol

import (
	"cabotage/api"
	"cabotage/scope"
	"cabotage/state"
)

// solution is a solution of a formed program.
type solution struct {
	state.Solution
	sizes []int // of the environments of nodes
	inner []int // of those of the Kids of the TermDefs of definitions
}

// lookInto returns a solution of a program, or ErrArg if one of them is not formed.
func lookInto(p api.ScopeProg, s api.Sol) (solution, api.Errno) {
	sizes, e := scope.Sizes(p)
	if e != api.OK {
		return solution{}, e
	}
	q := solution{state.Solution{Sol: s, ScopeProg: p}, sizes, make([]int, len(p.Defs))}
	for _, n := range p.Nodes {
		if n.Op == api.TermDef {
			q.inner[n.N] = sizes[n.Kids[0]]
		}
	}
	if !q.formed() {
		return solution{}, api.ErrArg
	}
	return q, api.OK
}
