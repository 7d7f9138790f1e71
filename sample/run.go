package sample

import (
	"iter"

	"cabotage/api"
	"cabotage/read"
	"cabotage/scope"
	"cabotage/sol"
	"cabotage/state"
)

// Bound returns the program of a source.
func Bound(source string) (api.ScopeProg, api.Errno) {
	t, e := read.Parse(source)
	if e != api.OK {
		return api.ScopeProg{}, e
	}
	return scope.Bind(t)
}

// Source returns the source of a process for a program, or what there is in place of it.
func Source(p api.ScopeProg) string {
	t, e := scope.Term(p)
	if e != api.OK {
		return "a program without a process"
	}
	s, _ := read.Print(t)
	return s
}

// Solutions goes through the solutions of runs by chance, of so many programs by
// chance, from those at first on. The solutions are the asker's.
func Solutions(below Below, programs int) iter.Seq2[api.ScopeProg, api.Sol] {
	return func(yield func(api.ScopeProg, api.Sol) bool) {
		for range programs {
			p := Program(below, 5)
			s, _, e := sol.First(p)
			for turn := 0; e == api.OK && turn < 25; turn++ {
				if !yield(p, state.Copied(s)) {
					return
				}
				n, _ := sol.Count(p, s)
				if n == 0 {
					break
				}
				s, _, e = sol.Run(p, s, []int{below(n)})
			}
		}
	}
}

// Formed goes through solutions that are formed, most of them such that no run has:
// those of runs, with some things changed.
func Formed(below Below, programs int, formed func(api.ScopeProg, api.Sol) bool) iter.Seq2[api.ScopeProg, api.Sol] {
	return func(yield func(api.ScopeProg, api.Sol) bool) {
		for p, s := range Solutions(below, programs) {
			if !yield(p, state.Copied(s)) {
				return
			}
			for range 6 {
				u := state.Copied(s)
				for range 1 + below(2) {
					Spoil(below, &u)
				}
				if !formed(p, u) {
					continue
				}
				if s = u; !yield(p, state.Copied(s)) {
					return
				}
			}
		}
	}
}
