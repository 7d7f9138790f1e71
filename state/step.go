package state

import (
	"iter"
	"slices"

	"cabotage/api"
	"cabotage/list"
)

// ways goes through the steps, in order, those of one rule at once: without their
// Picks, with the numbers of messages from which these are taken.
func (s Solution) ways() iter.Seq2[api.SolStep, []int] {
	return func(yield func(api.SolStep, []int) bool) {
		for i, w := range s.Waits {
			if s.goesOn(w) && !yield(api.SolStep{Wait: i}, nil) {
				return
			}
		}
		for g := range s.Groups {
			for r, rule := range s.Definition(g).Rules {
				if !yield(api.SolStep{Wait: -1, Group: g, Rule: r}, s.messages(g, rule)) {
					return
				}
			}
		}
	}
}

// goesOn reports whether a process that waits can go on.
func (s Solution) goesOn(w api.SolWait) bool {
	n := s.Nodes[w.Node]
	if n.Op == api.TermStop {
		return true
	}
	v := w.Env[n.N]
	if v.Kind != api.SolPlace {
		return false
	}
	if n.Op == api.TermWatch {
		return s.Spots[v.N].Dead
	}
	// The place 0 stays where it is, as all are within it.
	return !s.Spots[v.N].Dead && !slices.Contains(Within(s.Spots, w.At), v.N)
}

// messages returns how many there are of each channel of a rule: none if its place is
// dead, as its channels are there.
func (s Solution) messages(g int, r api.ScopeRule) []int {
	return list.Each(r.Joins, func(c int) int { return len(s.Chans[s.Channel(g, c)].Queue) })
}

// choices returns in how many ways one can be taken of each of some things.
func choices(many []int) int {
	n := 1
	for _, m := range many {
		n *= m
	}
	return n
}

// Count returns how many steps there are.
func (s Solution) Count() int {
	n := 0
	for _, many := range s.ways() {
		n += choices(many)
	}
	return n
}

// Nth returns the step with a number, or ErrNone if there is none.
func (s Solution) Nth(n int) (api.SolStep, api.Errno) {
	if n < 0 {
		return api.SolStep{}, api.ErrNone
	}
	for x, many := range s.ways() {
		if n < choices(many) {
			x.Picks = digits(n, many)
			return x, api.OK
		}
		n -= choices(many)
	}
	return api.SolStep{}, api.ErrNone
}

// digits returns the digits of a number, of which each is one of so many.
func digits(n int, many []int) []int {
	l := make([]int, len(many))
	for i, m := range slices.Backward(many) {
		l[i] = n % m
		n /= m
	}
	return l
}

// Can reports whether a step is one of the solution's.
func (s Solution) Can(x api.SolStep) bool {
	for y, many := range s.ways() {
		if y.Wait == x.Wait && y.Group == x.Group && y.Rule == x.Rule {
			return slices.EqualFunc(x.Picks, many, list.Numbered)
		}
	}
	return false
}
