package sol

import (
	"slices"

	"cabotage/api"
	"cabotage/list"
	"cabotage/state"
)

// formed asks first what it needs in order to ask the rest.
func (s solution) formed() bool {
	return len(s.Spots) <= api.SolSpots && len(s.Groups) <= api.SolGroups && len(s.Chans) <= api.SolChans && len(s.Waits) <= api.SolWaits &&
		state.Rooted(s.Spots) && s.deathIsWhole() && s.owned() && list.All(s.Groups, s.groupFits) && s.chansFit() && list.All(s.Waits, s.waitFits)
}

// deathIsWhole reports whether each place within a dead one is dead.
func (s solution) deathIsWhole() bool {
	return list.All(s.Spots[1:], func(p api.SolSpot) bool { return p.Dead || !s.Spots[p.In].Dead })
}

// owned reports whether each channel, and each place but the first one, is the own of
// the group whose turn it is.
func (s solution) owned() bool {
	chans, spots := 0, 1
	for _, g := range s.Groups {
		if !list.Numbered(g.Def, len(s.Defs)) || len(g.Env) != s.inner[g.Def] {
			return false
		}
		d := s.Defs[g.Def]
		own := state.Own(d, chans, spots)
		if !slices.Equal(g.Env[len(g.Env)-len(own):], own) {
			return false
		}
		chans, spots = chans+len(d.Chans), spots+len(d.Spots)
	}
	return chans == len(s.Chans) && spots == len(s.Spots)
}

func (s solution) groupFits(g api.SolGroup) bool {
	return list.Numbered(g.At, len(s.Spots)) && list.All(g.Env, s.has)
}

// has reports whether a value is one of the solution.
func (s solution) has(v api.SolVal) bool {
	switch v.Kind {
	case api.SolFree:
		return list.Numbered(v.N, len(s.Free))
	case api.SolChan:
		return list.Numbered(v.N, len(s.Chans))
	case api.SolPlace:
		return list.Numbered(v.N, len(s.Spots))
	}
	return isValue(v)
}

// chansFit reports whether the channels are formed. They are the own of the groups,
// in order.
func (s solution) chansFit() bool {
	n := 0
	for g, group := range s.Groups {
		for i, c := range s.Defs[group.Def].Chans {
			q := s.Chans[n]
			if q.Group != g || q.Index != i || q.At != s.Place(g, c.At) || !s.queueFits(q, c.Many) {
				return false
			}
			n++
		}
	}
	return true
}

// queueFits reports whether a channel may have its messages, which bring so many values.
func (s solution) queueFits(q api.SolQ, many int) bool {
	if len(q.Queue) > api.SolQueue || s.Spots[q.At].Dead && len(q.Queue) > 0 {
		return false
	}
	return list.All(q.Queue, func(m api.SolMsg) bool { return len(m.Vals) == many && list.All(m.Vals, s.has) })
}

func (s solution) waitFits(w api.SolWait) bool {
	if !list.Numbered(w.At, len(s.Spots)) || s.Spots[w.At].Dead || !list.Numbered(w.Node, len(s.Nodes)) {
		return false
	}
	switch s.Nodes[w.Node].Op {
	case api.TermGo, api.TermStop, api.TermWatch:
		return len(w.Env) == s.sizes[w.Node] && list.All(w.Env, s.has)
	}
	return false
}
