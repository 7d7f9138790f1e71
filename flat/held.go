package flat

import (
	"slices"

	"cabotage/api"
	"cabotage/list"
	"cabotage/sol"
	"cabotage/state"
)

// lookAt returns a flat program with what is to be known of it, or ErrArg if it is not
// formed, or a flat solution is not.
func lookAt(f api.FlatProg, s api.Sol) (program, api.Errno) {
	q, e := lookInto(f)
	if e != api.OK {
		return program{}, e
	}
	if !q.fits(s) {
		return program{}, api.ErrArg
	}
	return q, api.OK
}

// fits reports whether a flat solution is formed. The limits are asked for first, so
// that not too much is filled.
func (q *program) fits(s api.Sol) bool {
	return len(s.Groups) <= api.SolGroups && len(s.Waits) <= api.SolWaits &&
		list.All(s.Groups, func(g api.SolGroup) bool {
			return list.Numbered(g.Def, len(q.Defs)) && q.holds(q.makers[g.Def], g.Env)
		}) &&
		list.All(s.Waits, func(w api.SolWait) bool {
			return list.Numbered(w.Node, len(q.Nodes)) && q.holds(w.Node, w.Env)
		}) &&
		sol.Check(q.opened, q.filled(s)) == api.OK
}

// holds reports whether as many values are held for a node as there are places to be
// held of it.
func (q *program) holds(n int, env []api.SolVal) bool {
	places, _ := q.held(n)
	return len(env) == len(places)
}

// held returns the places whose values are held for a node, by a process that waits or
// by a group, and the size of the whole environment.
func (q *program) held(n int) ([]int, int) {
	places, size := q.taken(n), q.sizes[n]
	if q.Nodes[n].Op != api.TermDef {
		return places, size
	}
	inner := q.sizes[q.Nodes[n].Kids[0]]
	return slices.Concat(places, between(size, inner)), inner
}

// filled returns a flat solution whose Envs have their lengths, filled.
func (q *program) filled(s api.Sol) api.Sol {
	return q.renewed(s, func(n int, env []api.SolVal) []api.SolVal {
		places, size := q.held(n)
		full := slices.Repeat([]api.SolVal{{Kind: api.SolInt}}, size)
		for i, place := range places {
			full[place] = env[i]
		}
		return full
	})
}

// flattened returns the flat solution of a formed solution.
func (q *program) flattened(s api.Sol) api.Sol {
	return q.renewed(s, func(n int, env []api.SolVal) []api.SolVal {
		places, _ := q.held(n)
		return picked(env, places)
	})
}

// renewed returns a solution with other Envs: what f makes of them, of the nodes for
// which they are held.
func (q *program) renewed(s api.Sol, f func(n int, env []api.SolVal) []api.SolVal) api.Sol {
	s = state.Copied(s)
	for i, g := range s.Groups {
		s.Groups[i].Env = f(q.makers[g.Def], g.Env)
	}
	for i, w := range s.Waits {
		s.Waits[i].Env = f(w.Node, w.Env)
	}
	return s
}
