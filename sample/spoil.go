package sample

import (
	"math"
	"slices"

	"cabotage/api"
)

// Spoil changes one thing in what a points to, which is a program, a flat program, a
// solution or a step, a group, a machine, a word or a tree of layer 8, or a list of
// numbers: a number, a name, whether something is dead, or how long a list is. All lists
// then have memory of their own.
func Spoil(below Below, a any) {
	spoil := spoiler{below: below}
	own(a)
	spoil.visit(a)
	spoil.changes[below(len(spoil.changes))]()
	own(a)
}

// own gives all lists in what a points to memory of their own.
func own(a any) {
	s := spoiler{owns: true}
	s.visit(a)
}

// Apart reports whether all lists in what some pointers point to have memory of their
// own, with what lies behind their ends: those that Spoil takes, and lists of lists of
// numbers, and of events.
func Apart(all ...any) bool {
	s := spoiler{seen: map[any]bool{}}
	for _, a := range all {
		s.visit(a)
	}
	return !s.shared
}

// spoiler gathers changes of which one is made; or it makes none, but gives lists
// memory of their own, or sees whether some have the same.
type spoiler struct {
	below   Below
	changes []func()
	owns    bool
	seen    map[any]bool // pointers to elements of lists
	shared  bool
}

func (s *spoiler) visit(a any) {
	switch a := a.(type) {
	case *api.ScopeProg:
		s.program(a)
	case *api.FlatProg:
		s.flat(a)
	case *api.Sol:
		s.solution(a)
	case *api.SolStep:
		s.step(a)
	case *api.AutoGroup:
		number(s, &a.Chans)
		numbers(s, &a.Rules)
	case *api.AutoMachine:
		s.automaton(a)
	case *[]api.AutoLetter:
		items(s, a, func(l *api.AutoLetter) {
			number(s, &l.Chan)
			number(s, &l.Keep)
		})
	case *[]api.AutoNode:
		items(s, a, s.test)
	case *[]int:
		numbers(s, a)
	case *[][]int:
		items(s, a, func(l *[]int) { numbers(s, l) })
	case *[]api.SolEvent:
		items(s, a, func(x *api.SolEvent) { s.values(&x.Vals) })
	default:
		panic("not known to the spoiler")
	}
}

// look sees where a list has its memory.
func look[A any](s *spoiler, l []A) {
	l = l[:cap(l)]
	for i := range l {
		if s.seen[&l[i]] {
			s.shared = true
		}
		s.seen[&l[i]] = true
	}
}

func number[N ~int](s *spoiler, n *N) {
	s.changes = append(s.changes, func() {
		others := []N{*n + 1, *n - 1, 0, 1, 2, 3, N(s.below(16)), api.TermMost + 1, math.MaxInt, math.MinInt}
		*n = others[s.below(len(others))]
	})
}

func (s *spoiler) text(t *string) {
	others := []string{"", "a", "d", "out", "zz", "go", "abcdefghi", "A"}
	s.changes = append(s.changes, func() { *t = others[s.below(len(others))] })
}

// items gathers changes to a list, and to what is in its elements.
func items[A any](s *spoiler, l *[]A, each func(*A)) {
	s.changes = append(s.changes, func() { resize(s.below, l) })
	if s.owns {
		*l = slices.Clone(*l)
	}
	if s.seen != nil {
		look(s, *l)
	}
	for i := range *l {
		each(&(*l)[i])
	}
}

// resize swaps two elements of a list, or makes it shorter or longer.
func resize[A any](below Below, l *[]A) {
	n := len(*l)
	kept := slices.Clone(*l)
	switch way := below(6); {
	case n > 1 && way < 2:
		i, j := below(n), below(n)
		kept[i], kept[j] = kept[j], kept[i]
	case n > 0 && way < 4:
		kept = kept[:below(2)*(n-1)]
	case n > 0 && way == 4:
		kept = append(kept, kept[below(n)])
	default:
		var more A
		kept = append(kept, more)
	}
	*l = kept
}

func numbers(s *spoiler, l *[]int) { items(s, l, func(n *int) { number(s, n) }) }

func (s *spoiler) expression(e *api.ScopeExp) {
	number(s, &e.Op)
	number(s, &e.N)
	items(s, &e.Kids, s.expression)
}

func (s *spoiler) definition(d *api.ScopeDef) {
	items(s, &d.Chans, func(c *api.ScopeChan) {
		number(s, &c.At)
		number(s, &c.Many)
	})
	items(s, &d.Spots, func(p *api.ScopeSpot) {
		number(s, &p.In)
		number(s, &p.Node)
	})
	items(s, &d.Rules, func(r *api.ScopeRule) {
		number(s, &r.At)
		numbers(s, &r.Joins)
		number(s, &r.Node)
	})
}

func (s *spoiler) program(p *api.ScopeProg) {
	items(s, &p.Free, s.text)
	items(s, &p.Nodes, func(n *api.ScopeNode) {
		number(s, &n.Op)
		number(s, &n.N)
		items(s, &n.Args, s.expression)
		numbers(s, &n.Kids)
	})
	items(s, &p.Defs, s.definition)
	number(s, &p.Main)
}

func (s *spoiler) flat(f *api.FlatProg) {
	items(s, &f.Free, s.text)
	numbers(s, &f.Take)
	items(s, &f.Nodes, func(n *api.FlatNode) {
		number(s, &n.Op)
		number(s, &n.N)
		items(s, &n.Args, s.expression)
		numbers(s, &n.Kids)
		numbers(s, &n.Take)
	})
	items(s, &f.Defs, s.definition)
	number(s, &f.Main)
}

func (s *spoiler) values(l *[]api.SolVal) {
	items(s, l, func(v *api.SolVal) {
		number(s, &v.Kind)
		number(s, &v.N)
	})
}

func (s *spoiler) solution(a *api.Sol) {
	items(s, &a.Spots, func(p *api.SolSpot) {
		number(s, &p.In)
		s.changes = append(s.changes, func() { p.Dead = !p.Dead })
	})
	items(s, &a.Groups, func(g *api.SolGroup) {
		number(s, &g.Def)
		number(s, &g.At)
		s.values(&g.Env)
	})
	items(s, &a.Chans, func(q *api.SolQ) {
		number(s, &q.Group)
		number(s, &q.Index)
		number(s, &q.At)
		items(s, &q.Queue, func(m *api.SolMsg) { s.values(&m.Vals) })
	})
	items(s, &a.Waits, func(w *api.SolWait) {
		number(s, &w.At)
		number(s, &w.Node)
		s.values(&w.Env)
	})
}

func (s *spoiler) step(x *api.SolStep) {
	number(s, &x.Wait)
	number(s, &x.Group)
	number(s, &x.Rule)
	numbers(s, &x.Picks)
}

func (s *spoiler) automaton(m *api.AutoMachine) {
	items(s, &m.States, func(acts *[]api.AutoAct) {
		items(s, acts, func(a *api.AutoAct) {
			number(s, &a.Rule)
			numbers(s, &a.Next)
		})
	})
}

func (s *spoiler) test(n *api.AutoNode) {
	number(s, &n.Chan)
	number(s, &n.Yes)
	number(s, &n.No)
	number(s, &n.Rule)
}
