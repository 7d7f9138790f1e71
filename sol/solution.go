package sol

import (
	"cabotage/api"
	"cabotage/scope"
)

// solution is a solution of a formed program.
type solution struct {
	api.Sol
	api.ScopeProg
	sizes []int // of the environments of nodes
	inner []int // of those of the Kids of the TermDefs of definitions
}

// lookInto returns a solution of a program, or ErrArg if one of them is not formed.
func lookInto(p api.ScopeProg, s api.Sol) (solution, api.Errno) {
	sizes, e := scope.Sizes(p)
	if e != api.OK {
		return solution{}, e
	}
	q := solution{s, p, sizes, make([]int, len(p.Defs))}
	for _, n := range p.Nodes {
		if n.Op == api.TermDef {
			q.inner[n.N] = sizes[n.Kids[0]]
		}
	}
	if !q.formed() {
		return solution{}, api.ErrArg
	}
	return q, api.OK
}

// owns returns the channels and the places of a definition, numbered from the given
// numbers on.
func owns(d api.ScopeDef, chans, spots int) []api.SolVal {
	var own []api.SolVal
	for i := range d.Chans {
		own = append(own, api.SolVal{Kind: api.SolChan, N: chans + i})
	}
	for i := range d.Spots {
		own = append(own, api.SolVal{Kind: api.SolPlace, N: spots + i})
	}
	return own
}

// definition returns the definition of a group.
func (s solution) definition(g int) api.ScopeDef { return s.Defs[s.Groups[g].Def] }

// place returns the place of a group with a number of its definition.
func (s solution) place(g, n int) int {
	if n == 0 {
		return s.Groups[g].At
	}
	env := s.Groups[g].Env
	return env[len(env)-len(s.definition(g).Spots)+n-1].N
}

// channel returns the channel of a group with a number of its definition.
func (s solution) channel(g, n int) int {
	env, d := s.Groups[g].Env, s.definition(g)
	return env[len(env)-len(d.Spots)-len(d.Chans)+n].N
}

// many returns how many values a channel's messages bring.
func (s solution) many(q api.SolQ) int { return s.definition(q.Group).Chans[q.Index].Many }
