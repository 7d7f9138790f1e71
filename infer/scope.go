package infer

import (
	"cabotage/api"
	"cabotage/term"
)

// scope is what a TermDef or a rule binds, within the scope around it.
type scope struct {
	names                  // what is bound here
	*record                // of the whole process
	around  *scope         // nil around all of it
	general map[*node]bool // the variables that become others wherever a name that is bound here stands
}

// names are names with their types.
type names map[string]*node

// record holds what TermDefs define, in the order of parts.
type record struct{ defs []definition }

// definition is the channels of a TermDef, and the scope in which they are bound.
type definition struct {
	*scope
	channels []string
}

// bind binds names that can have any types.
func (n names) bind(l []string) {
	for _, name := range l {
		n[name] = typed(open{})
	}
}

// collect adds the variables of types to a set, apart from some.
func (n names) collect(set, but map[*node]bool) {
	for _, t := range n {
		for v := range variables(t) {
			if !but[v] {
				set[v] = true
			}
		}
	}
}

// outermost returns the scope of a process's free names, which can have any types.
func outermost(t api.Term) *scope {
	s := &scope{names: names{}, record: &record{}}
	free, _ := term.Free(t)
	s.bind(free)
	return s
}

func (s *scope) enter(l []string) *scope {
	in := &scope{names: names{}, record: s.record, around: s}
	in.bind(l)
	return in
}

// define returns the scope of what a TermDef defines.
func (s *scope) define(t api.Term) *scope {
	channels, places, _ := term.Defines(t)
	in := s.enter(channels)
	for _, name := range places {
		in.names[name] = typed(place{})
	}
	s.defs = append(s.defs, definition{in, channels})
	return in
}

func (s *scope) clause(c api.TermClause) clause {
	var l []string
	for _, m := range c.Joins {
		l = append(l, m.Names...)
	}
	return clause{c, s.enter(l)}
}

// use returns the type that a name has where it stands. There is one: a name that
// is bound nowhere else is free, and these are bound outermost.
func (s *scope) use(name string) *node {
	if t, is := s.names[name]; is {
		return instance(t, s.general)
	}
	return s.around.use(name)
}

// value returns the type of an expression.
func (s *scope) value(e api.TermExp) *node {
	if e.Op == api.TermName {
		return s.use(e.Text)
	}
	return typed(integer{})
}

// settle says which variables are general, in the scope of a TermDef with these
// Defs.
func (s *scope) settle(defs []api.TermClause) {
	stay := map[*node]bool{}
	for at := s.around; at != nil; at = at.around {
		at.collect(stay, at.general)
	}
	for r := range rules(defs) {
		seen := map[*node]bool{}
		for _, m := range r.Joins {
			for v := range variables(s.names[m.Text]) {
				stay[v] = stay[v] || seen[v]
				seen[v] = true
			}
		}
	}
	s.general = map[*node]bool{}
	s.collect(s.general, stay)
}

// count returns how many demands a process has.
func count(t api.Term) int {
	n := 0
	for range outermost(t).demands(t) {
		n++
	}
	return n
}

// meet makes types equal as the demands of a process with some numbers ask for,
// and reports whether they can be.
func (s *scope) meet(t api.Term, some []int) bool {
	return possible(func() {
		next := 0 // the number of a demand
		for d := range s.demands(t) {
			if len(some) > 0 && some[0] == next {
				equate(d.left, d.right)
				some = some[1:]
			}
			next++
		}
	})
}
