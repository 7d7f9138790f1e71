package term

import "cabotage/api"

// put returns a process with an expression in place of a name.
func put(t api.Term, x string, e api.TermExp) api.Term {
	free := freeNames(expression{e})
	n := naming{
		taken: written(process{t}), // x among them, where it matters
		put:   map[string]api.TermExp{x: e},
		// A bound name is in the way where it would catch one of e's.
		anew: func(s *scope, p part, name string) bool {
			_, hidden := s.bound(x)
			return free[name] && !hidden && freeNames(p)[x]
		},
	}
	for name := range free {
		n.taken[name] = true
	}
	return outermost(n).process(t)
}

// leads reports whether a name that is free in a process stands there as the
// Text of a process.
func leads(t api.Term, x string) bool {
	for name, p := range standing(process{t}) {
		if _, is := p.(process); is && name == x {
			return true
		}
	}
	return false
}

// written returns all names that stand anywhere in a part: free ones, bound
// ones, and those by which they are bound.
func written(p part) map[string]bool {
	names := map[string]bool{}
	for _, q := range nodes(p) {
		for _, s := range append(q.binds(), q.stands()) {
			names[s] = true
		}
	}
	return names
}

// canon returns a process with its bound names chosen anew.
func canon(t api.Term) api.Term {
	n := naming{
		taken: freeNames(process{t}),
		anew:  func(*scope, part, string) bool { return true },
	}
	return outermost(n).process(t)
}

// copied returns a process that shares no memory with another one.
func copied(t api.Term) api.Term { return outermost(naming{}).process(t) }

func copiedExp(e api.TermExp) api.TermExp { return outermost(naming{}).expression(e) }
