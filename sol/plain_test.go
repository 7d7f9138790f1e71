package sol_test

import (
	"slices"

	"cabotage/api"
	"cabotage/scope"
)

// The definitions of the chapter once more, read plainly: a place is looked for from
// inside outwards, steps are written down one by one, what is done at once stands in a
// list of work, and limits are asked when all is done.

type plain struct {
	p     api.ScopeProg
	sizes []int
	kid   []int // the Kid of each definition's TermDef
}

func newPlain(p api.ScopeProg) plain {
	q := plain{p: p, kid: make([]int, len(p.Defs))}
	q.sizes, _ = scope.Sizes(p)
	for _, n := range p.Nodes {
		if n.Op == api.TermDef {
			q.kid[n.N] = n.Kids[0]
		}
	}
	return q
}

// isWithin reports whether the place b is within the place a.
func isWithin(s api.Sol, b, a int) bool {
	for range len(s.Spots) + 1 {
		if b == a {
			return true
		}
		if b < 0 || b >= len(s.Spots) {
			return false
		}
		b = s.Spots[b].In
	}
	return false
}

// allWithin are the places within a place.
func allWithin(s api.Sol, a int) []int {
	var l []int
	for b := range s.Spots {
		if isWithin(s, b, a) {
			l = append(l, b)
		}
	}
	return l
}

func isTooMuch(s api.Sol) bool {
	return len(s.Spots) > 24 || len(s.Groups) > 40 || len(s.Chans) > 60 || len(s.Waits) > 40 ||
		slices.ContainsFunc(s.Chans, func(q api.SolQ) bool { return len(q.Queue) > 12 })
}

// own are the channels, or the places, of a group.
func (q plain) own(g api.SolGroup, kind api.SolKind) []api.SolVal {
	d, end := q.p.Defs[g.Def], len(g.Env)
	if kind == api.SolPlace {
		return g.Env[end-len(d.Spots):]
	}
	return g.Env[end-len(d.Spots)-len(d.Chans) : end-len(d.Spots)]
}

// place is the place of a group with a number.
func (q plain) place(g api.SolGroup, n int) int {
	return append([]api.SolVal{{Kind: api.SolPlace, N: g.At}}, q.own(g, api.SolPlace)...)[n].N
}

func (q plain) isFormed(s api.Sol) bool {
	return !isTooMuch(s) && q.placesFormed(s) && q.groupsFormed(s) && q.chansFormed(s) && q.waitsFormed(s)
}

func (q plain) placesFormed(s api.Sol) bool {
	for i, p := range s.Spots {
		if (i == 0) != (p.In == -1) || !isWithin(s, i, 0) {
			return false
		}
		for _, j := range allWithin(s, i) {
			if p.Dead && !s.Spots[j].Dead {
				return false
			}
		}
	}
	return len(s.Spots) > 0
}

func (q plain) valsFormed(s api.Sol, l []api.SolVal) bool {
	for _, v := range l {
		least := 0
		most, is := map[api.SolKind]int{api.SolInt: 1000000000, api.SolFree: len(q.p.Free) - 1, api.SolChan: len(s.Chans) - 1, api.SolPlace: len(s.Spots) - 1}[v.Kind]
		if v.Kind == api.SolInt {
			least = -most
		}
		if !is || v.N < least || v.N > most {
			return false
		}
	}
	return true
}

func (q plain) groupsFormed(s api.Sol) bool {
	var own, want []api.SolVal
	for i := range s.Chans {
		want = append(want, api.SolVal{Kind: api.SolChan, N: i})
	}
	for i := range s.Spots[1:] {
		want = append(want, api.SolVal{Kind: api.SolPlace, N: i + 1})
	}
	for _, g := range s.Groups {
		if g.Def < 0 || g.Def >= len(q.p.Defs) || g.At < 0 || g.At >= len(s.Spots) || len(g.Env) != q.sizes[q.kid[g.Def]] || !q.valsFormed(s, g.Env) {
			return false
		}
	}
	for _, kind := range []api.SolKind{api.SolChan, api.SolPlace} {
		for _, g := range s.Groups {
			own = append(own, q.own(g, kind)...)
		}
	}
	return slices.Equal(own, want)
}

func (q plain) chansFormed(s api.Sol) bool {
	for i, c := range s.Chans {
		if c.Group < 0 || c.Group >= len(s.Groups) {
			return false
		}
		g := s.Groups[c.Group]
		own := q.own(g, api.SolChan)
		if c.Index < 0 || c.Index >= len(own) || own[c.Index].N != i {
			return false
		}
		d := q.p.Defs[g.Def].Chans[c.Index]
		if c.At != q.place(g, d.At) || s.Spots[c.At].Dead && len(c.Queue) > 0 {
			return false
		}
		for _, m := range c.Queue {
			if len(m.Vals) != d.Many || !q.valsFormed(s, m.Vals) {
				return false
			}
		}
	}
	return true
}

func (q plain) waitsFormed(s api.Sol) bool {
	for _, w := range s.Waits {
		if w.At < 0 || w.At >= len(s.Spots) || s.Spots[w.At].Dead || w.Node < 0 || w.Node >= len(q.p.Nodes) {
			return false
		}
		if !slices.Contains([]api.TermOp{api.TermGo, api.TermStop, api.TermWatch}, q.p.Nodes[w.Node].Op) || len(w.Env) != q.sizes[w.Node] || !q.valsFormed(s, w.Env) {
			return false
		}
	}
	return true
}

// plainValue is the value of an expression.
func plainValue(e api.ScopeExp, env []api.SolVal) api.SolVal {
	if e.Op == api.TermName {
		return env[e.N]
	}
	n := e.N
	if e.Op != api.TermInt {
		var l [2]int
		for i := range l {
			if v := plainValue(e.Kids[i], env); v.Kind == api.SolInt {
				l[i] = v.N
			}
		}
		is := map[bool]int{true: 1}
		n = map[api.TermSign]int{api.TermAdd: l[0] + l[1], api.TermSub: l[0] - l[1], api.TermMul: l[0] * l[1], api.TermLess: is[l[0] < l[1]], api.TermSame: is[l[0] == l[1]]}[e.Op]
	}
	if n > 1000000000 {
		n = 1000000000
	}
	if n < -1000000000 {
		n = -1000000000
	}
	return api.SolVal{Kind: api.SolInt, N: n}
}

// goesOn reports whether a process that waits can go on.
func (q plain) goesOn(s api.Sol, w api.SolWait) bool {
	n := q.p.Nodes[w.Node]
	if n.Op == api.TermStop {
		return true
	}
	v := w.Env[n.N]
	switch {
	case v.Kind != api.SolPlace:
		return false
	case n.Op == api.TermWatch:
		return s.Spots[v.N].Dead
	}
	return !s.Spots[v.N].Dead && !isWithin(s, v.N, w.At) && w.At > 0
}

// steps are all steps of a solution.
func (q plain) steps(s api.Sol) []api.SolStep {
	var l []api.SolStep
	for i, w := range s.Waits {
		if q.goesOn(s, w) {
			l = append(l, api.SolStep{Wait: i})
		}
	}
	for g, group := range s.Groups {
		for r, rule := range q.p.Defs[group.Def].Rules {
			if s.Spots[q.place(group, rule.At)].Dead {
				continue
			}
			picks := [][]int{nil}
			for _, c := range rule.Joins {
				var more [][]int
				for _, p := range picks {
					for i := range s.Chans[q.own(group, api.SolChan)[c].N].Queue {
						more = append(more, append(slices.Clone(p), i))
					}
				}
				picks = more
			}
			for _, p := range picks {
				l = append(l, api.SolStep{Wait: -1, Group: g, Rule: r, Picks: p})
			}
		}
	}
	return l
}

// first is the solution at first, with what is said, however much there is of it.
func (q plain) first() (api.Sol, []api.SolEvent) {
	s := api.Sol{Spots: []api.SolSpot{{In: -1}}}
	var env []api.SolVal
	for i := range q.p.Free {
		env = append(env, api.SolVal{Kind: api.SolFree, N: i})
	}
	l := q.work(&s, api.SolWait{Node: q.p.Main, Env: env})
	return s, l
}

// do is the solution after a step, with the events, however much there is of it.
func (q plain) do(s api.Sol, x api.SolStep) (api.Sol, []api.SolEvent) {
	s = copied(s)
	var event api.SolEvent
	var todo []api.SolWait
	if x.Wait >= 0 {
		w := s.Waits[x.Wait]
		n := q.p.Nodes[w.Node]
		s.Waits = append(slices.Clone(s.Waits[:x.Wait]), s.Waits[x.Wait+1:]...)
		event = api.SolEvent{Deed: map[api.TermOp]api.SolDeed{api.TermGo: api.SolWent, api.TermStop: api.SolDied, api.TermWatch: api.SolTold}[n.Op], At: w.At}
		if n.Op == api.TermStop {
			s = killed(s, w.At)
		} else {
			event.N = w.Env[n.N].N
			todo = append(todo, api.SolWait{At: w.At, Node: n.Kids[0], Env: w.Env})
		}
		if n.Op == api.TermGo {
			s.Spots[w.At].In = event.N
		}
	} else {
		g := s.Groups[x.Group]
		r := q.p.Defs[g.Def].Rules[x.Rule]
		event = api.SolEvent{Deed: api.SolTook, At: q.place(g, r.At), N: x.Group, M: x.Rule}
		for i, c := range r.Joins {
			queue := &s.Chans[q.own(g, api.SolChan)[c].N].Queue
			event.Vals = append(event.Vals, (*queue)[x.Picks[i]].Vals...)
			*queue = append(slices.Clone((*queue)[:x.Picks[i]]), (*queue)[x.Picks[i]+1:]...)
		}
		todo = append(todo, api.SolWait{At: event.At, Node: r.Node, Env: append(slices.Clone(g.Env), event.Vals...)})
	}
	return s, append([]api.SolEvent{event}, q.work(&s, todo...)...)
}

// killed is a solution in which a place died.
func killed(s api.Sol, place int) api.Sol {
	var waits []api.SolWait
	for _, w := range s.Waits {
		if !isWithin(s, w.At, place) {
			waits = append(waits, w)
		}
	}
	s.Waits = waits
	for i, c := range s.Chans {
		if isWithin(s, c.At, place) {
			s.Chans[i].Queue = nil
		}
	}
	for _, b := range allWithin(s, place) {
		s.Spots[b].Dead = true
	}
	return s
}

// work does processes at once, and returns what is said.
func (q plain) work(s *api.Sol, todo ...api.SolWait) []api.SolEvent {
	var said []api.SolEvent
	for len(todo) > 0 {
		w := todo[0]
		var next []api.SolWait
		n := q.p.Nodes[w.Node]
		then := func(k int) { next = append(next, api.SolWait{At: w.At, Node: k, Env: w.Env}) }
		switch n.Op {
		case api.TermSend:
			said = append(said, q.send(s, w)...)
		case api.TermPar:
			then(n.Kids[0])
			then(n.Kids[1])
		case api.TermDef:
			next = q.define(s, w)
		case api.TermIf:
			if v := plainValue(n.Args[0], w.Env); v.Kind == api.SolInt && v.N != 0 {
				then(n.Kids[0])
			} else {
				then(n.Kids[1])
			}
		case api.TermGo, api.TermStop, api.TermWatch:
			s.Waits = append(s.Waits, w)
		}
		todo = append(next, todo[1:]...)
	}
	return said
}

func (q plain) send(s *api.Sol, w api.SolWait) []api.SolEvent {
	n := q.p.Nodes[w.Node]
	to := w.Env[n.N]
	var vals []api.SolVal
	for _, e := range n.Args {
		vals = append(vals, plainValue(e, w.Env))
	}
	if to.Kind == api.SolFree {
		return []api.SolEvent{{Deed: api.SolSaid, At: w.At, N: to.N, Vals: vals}}
	}
	if to.Kind == api.SolChan {
		c := &s.Chans[to.N]
		if many := q.p.Defs[s.Groups[c.Group].Def].Chans[c.Index].Many; many == len(vals) && !s.Spots[c.At].Dead {
			c.Queue = append(c.Queue, api.SolMsg{Vals: vals})
		}
	}
	return nil
}

func (q plain) define(s *api.Sol, w api.SolWait) []api.SolWait {
	n := q.p.Nodes[w.Node]
	d := q.p.Defs[n.N]
	g := api.SolGroup{Def: n.N, At: w.At, Env: slices.Clone(w.Env)}
	for i := range d.Chans {
		g.Env = append(g.Env, api.SolVal{Kind: api.SolChan, N: len(s.Chans) + i})
	}
	for i := range d.Spots {
		g.Env = append(g.Env, api.SolVal{Kind: api.SolPlace, N: len(s.Spots) + i})
	}
	s.Groups = append(s.Groups, g)
	for i, c := range d.Chans {
		s.Chans = append(s.Chans, api.SolQ{Group: len(s.Groups) - 1, Index: i, At: q.place(g, c.At)})
	}
	var next []api.SolWait
	for i, p := range d.Spots {
		s.Spots = append(s.Spots, api.SolSpot{In: q.place(g, p.In)})
		next = append(next, api.SolWait{At: q.place(g, i+1), Node: p.Node, Env: g.Env})
	}
	return append(next, api.SolWait{At: w.At, Node: n.Kids[0], Env: g.Env})
}
