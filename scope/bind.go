package scope

import (
	"cabotage/api"
	"cabotage/list"
	"cabotage/term"
)

// scope is what a TermDef or a rule binds, within the scope around it, which it
// embeds.
type scope struct {
	*scope
	*draft
	places map[string]int // the names that are bound here: their places in the environment
	size   int            // of the environment
}

// draft is the program that is being made; all scopes of one process share it.
type draft struct{ api.ScopeProg }

// stand is a rule or a place of a definition, with the place in which it stands.
type stand struct {
	in int
	api.TermClause
}

// plan is the rules and the places of a definition, in order.
type plan struct{ rules, spots []stand }

// bind returns the program of a formed process, however much there is of it. All
// processes within it are formed, too: layer 1 has answers for them.
func bind(t api.Term) api.ScopeProg {
	free, _ := term.Free(t)
	outer := &scope{draft: &draft{api.ScopeProg{Free: free}}}
	outer.enter(free).process(t)
	return outer.ScopeProg
}

// enter returns a scope in which names are bound behind all others.
func (s *scope) enter(names []string) *scope {
	in := &scope{scope: s, draft: s.draft, places: map[string]int{}, size: s.size + len(names)}
	for i, name := range names {
		in.places[name] = s.size + i
	}
	return in
}

// place returns the last place at which a name stands. There is one: a name that
// is bound nowhere else is free, and these are bound outermost.
func (s *scope) place(name string) int {
	if n, is := s.places[name]; is {
		return n
	}
	return s.scope.place(name)
}

// process adds a process's nodes, in order, and returns the first one's number.
func (s *scope) process(t api.Term) int {
	n := len(s.Nodes)
	s.Nodes = append(s.Nodes, api.ScopeNode{Op: t.Op, Args: list.Each(t.Args, s.expression)})
	in, number := s, 0
	switch t.Op {
	case api.TermSend, api.TermGo, api.TermWatch:
		number = s.place(t.Text)
	case api.TermDef:
		in, number = s.define(t)
	}
	kids := list.Each(t.Kids, in.process)
	s.Nodes[n].N, s.Nodes[n].Kids = number, kids
	return n
}

func (s *scope) expression(e api.TermExp) api.ScopeExp {
	if e.Op == api.TermName {
		return api.ScopeExp{Op: e.Op, N: s.place(e.Text)}
	}
	return api.ScopeExp{Op: e.Op, N: e.N, Kids: list.Each(e.Kids, s.expression)}
}

// define adds a TermDef's definition, with the nodes in it. It returns the scope
// of what it defines, and its number.
func (s *scope) define(t api.Term) (*scope, int) {
	number := len(s.Defs)
	s.Defs = append(s.Defs, api.ScopeDef{}) // before those that stand in it
	channels, places, _ := term.Defines(t)
	in := s.enter(append(channels, places...))
	d := api.ScopeDef{Chans: make([]api.ScopeChan, len(channels))}
	var p plan
	p.add(0, t.Defs)
	for _, c := range p.rules {
		for _, m := range c.Joins {
			d.Chans[in.place(m.Text)-s.size] = api.ScopeChan{At: c.in, Many: len(m.Names)}
		}
		r := in.rule(c, s.size)
		d.Rules = append(d.Rules, r)
	}
	for _, c := range p.spots {
		n := in.process(c.Kids[0])
		d.Spots = append(d.Spots, api.ScopeSpot{In: c.in, Node: n})
	}
	s.Defs[number] = d
	return in, number
}

// rule adds the nodes of a rule of a definition whose channels have the places
// from first on.
func (s *scope) rule(c stand, first int) api.ScopeRule {
	var names []string
	r := api.ScopeRule{At: c.in}
	for _, m := range c.Joins {
		r.Joins = append(r.Joins, s.place(m.Text)-first)
		names = append(names, m.Names...)
	}
	r.Node = s.enter(names).process(c.Kids[0])
	return r
}

// add takes up what stands in a place, then what stands in the places in it.
func (p *plan) add(in int, defs []api.TermClause) {
	for _, c := range defs {
		if c.Form == api.TermRule {
			p.rules = append(p.rules, stand{in, c})
		}
	}
	for _, c := range defs {
		if c.Form == api.TermPlace {
			p.spots = append(p.spots, stand{in, c})
			p.add(len(p.spots), c.Defs)
		}
	}
}
