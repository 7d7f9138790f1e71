// Package state is no layer: it has what the solutions of several layers have alike,
// be they flat or not: what belongs to whom, which steps there are, and what these
// change.
package state

import (
	"slices"

	"cabotage/api"
	"cabotage/list"
)

// Solution is a formed solution of a formed program; or a flat one of a flat program,
// of whose nodes then all stands here but what they take.
type Solution struct {
	api.Sol
	api.ScopeProg
}

// Own returns the channels and the places of a definition, numbered from the given
// numbers on.
func Own(d api.ScopeDef, chans, spots int) []api.SolVal {
	var own []api.SolVal
	for i := range d.Chans {
		own = append(own, api.SolVal{Kind: api.SolChan, N: chans + i})
	}
	for i := range d.Spots {
		own = append(own, api.SolVal{Kind: api.SolPlace, N: spots + i})
	}
	return own
}

// Definition returns the definition of a group.
func (s Solution) Definition(g int) api.ScopeDef { return s.Defs[s.Groups[g].Def] }

// Place returns the place of a group with a number of its definition.
func (s Solution) Place(g, n int) int {
	if n == 0 {
		return s.Groups[g].At
	}
	env := s.Groups[g].Env
	return env[len(env)-len(s.Definition(g).Spots)+n-1].N
}

// Channel returns the channel of a group with a number of its definition.
func (s Solution) Channel(g, n int) int {
	env, d := s.Groups[g].Env, s.Definition(g)
	return env[len(env)-len(d.Spots)-len(d.Chans)+n].N
}

// Many returns how many values a channel's messages bring.
func (s Solution) Many(q api.SolQ) int { return s.Definition(q.Group).Chans[q.Index].Many }

// Copied returns a solution in memory of its own.
func Copied(s api.Sol) api.Sol {
	return api.Sol{
		Spots: slices.Clone(s.Spots),
		Groups: list.Each(s.Groups, func(g api.SolGroup) api.SolGroup {
			g.Env = slices.Clone(g.Env)
			return g
		}),
		Chans: list.Each(s.Chans, func(q api.SolQ) api.SolQ {
			q.Queue = list.Each(q.Queue, func(m api.SolMsg) api.SolMsg { return api.SolMsg{Vals: slices.Clone(m.Vals)} })
			return q
		}),
		Waits: list.Each(s.Waits, func(w api.SolWait) api.SolWait {
			w.Env = slices.Clone(w.Env)
			return w
		}),
	}
}
