package term

import (
	"iter"

	"cabotage/api"
	"cabotage/list"
)

// scope is what a TermDef or a rule binds, within the scope around it, which it
// embeds.
type scope struct {
	*scope
	*naming
	now map[string]string // the names that are bound here: what each one is called now
}

// naming says what names become; all the scopes of one walk share it.
type naming struct {
	taken map[string]bool        // what a name that is chosen anew may not be
	put   map[string]api.TermExp // what stands in place of free names
	anew  anew                   // nil: no name is chosen anew
}

// anew tells whether a name that a part binds within a scope is chosen anew.
type anew func(s *scope, p part, name string) bool

// outermost returns a scope in which nothing is bound.
func outermost(n naming) *scope { return &scope{naming: &n} }

// enter returns the scope of the parts of a part.
func (s *scope) enter(p part) *scope {
	names := p.binds()
	if len(names) == 0 {
		return s
	}
	in := &scope{scope: s, naming: s.naming, now: map[string]string{}}
	for _, name := range names {
		in.now[name] = name
		if s.anew != nil && s.anew(s, p, name) {
			in.now[name] = fresh(s.taken)
			s.taken[in.now[name]] = true
		}
	}
	return in
}

// bound returns what a name that is bound is called now, and whether it is bound.
func (s *scope) bound(name string) (string, bool) {
	for at := s; at != nil; at = at.scope {
		if now, is := at.now[name]; is {
			return now, true
		}
	}
	return "", false
}

// value returns the expression that a name has become.
func (s *scope) value(name string) api.TermExp {
	if now, is := s.bound(name); is {
		return api.TermExp{Op: api.TermName, Text: now}
	}
	if e, is := s.put[name]; is {
		return copiedExp(e)
	}
	return api.TermExp{Op: api.TermName, Text: name}
}

// name returns the name that a name has become: the Text of a process has to be
// one.
func (s *scope) name(name string) string { return s.value(name).Text }

// process returns a process with what its names become in a scope. Scopes are
// entered in the order in which names are chosen anew: a part before its parts.
func (s *scope) process(t api.Term) api.Term {
	in := s.enter(process{t})
	out := api.Term{Op: t.Op}
	if t.Text != "" {
		out.Text = s.name(t.Text)
	}
	out.Args = list.Each(t.Args, in.expression)
	out.Defs = list.Each(t.Defs, in.clause)
	out.Kids = list.Each(t.Kids, in.process)
	return out
}

// expression returns an expression with what its names become in a scope.
func (s *scope) expression(e api.TermExp) api.TermExp {
	if e.Op == api.TermName {
		return s.value(e.Text)
	}
	return api.TermExp{Op: e.Op, N: e.N, Kids: list.Each(e.Kids, s.expression)}
}

// clause returns a definition with what its names become in the scope of its
// TermDef.
func (s *scope) clause(c api.TermClause) api.TermClause {
	in := s.enter(clause{c})
	out := api.TermClause{Form: c.Form}
	if c.Text != "" {
		out.Text = s.name(c.Text)
	}
	for _, m := range c.Joins {
		out.Joins = append(out.Joins, api.TermMsg{Text: s.name(m.Text), Names: list.Each(m.Names, in.name)})
	}
	out.Defs = list.Each(c.Defs, in.clause)
	out.Kids = list.Each(c.Kids, in.process)
	return out
}

// standing goes through the names that are free in a part, wherever they stand,
// each with the part in which it stands.
func standing(p part) iter.Seq2[string, part] {
	return func(yield func(string, part) bool) {
		var visit func(s *scope, p part) bool
		visit = func(s *scope, p part) bool {
			name := p.stands()
			if _, is := s.bound(name); name != "" && !is && !yield(name, p) {
				return false
			}
			in := s.enter(p)
			for q := range p.below {
				if !visit(in, q) {
					return false
				}
			}
			return true
		}
		visit(outermost(naming{}), p)
	}
}

// freeNames returns the names that are free in a part.
func freeNames(p part) map[string]bool {
	free := map[string]bool{}
	for name := range standing(p) {
		free[name] = true
	}
	return free
}
