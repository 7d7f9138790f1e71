package infer

import (
	"iter"

	"cabotage/api"
	"cabotage/list"
)

// part is a process, an expression or a definition.
type part interface {
	// asks returns the demands of a part that stands in a scope, by their N.
	asks(s *scope) []demand
	// below goes through the parts of a part that stands in a scope, in order, with
	// the scopes in which they stand.
	below(s *scope) iter.Seq2[*scope, part]
}

// demand is a demand, and the two types that are equal if it is met.
type demand struct {
	api.InferDemand
	left, right *node
}

type process struct{ api.Term }

type expression struct{ api.TermExp }

// clause is a definition with the scope of its body.
type clause struct {
	api.TermClause
	body *scope
}

// demands goes through the demands of a process, in order. What is done with each
// of them shows in those behind it.
func (s *scope) demands(t api.Term) iter.Seq[demand] {
	return func(yield func(demand) bool) {
		next := 0
		var visit func(s *scope, p part) bool
		visit = func(s *scope, p part) bool {
			number := next
			next++
			for n, d := range p.asks(s) {
				d.Part, d.N = number, n
				if !yield(d) {
					return false
				}
			}
			for in, q := range p.below(s) {
				if !visit(in, q) {
					return false
				}
			}
			return true
		}
		visit(s, process{t})
	}
}

func ask(w api.InferWish, left, right *node) demand {
	return demand{api.InferDemand{Wish: w}, left, right}
}

func (t process) asks(s *scope) []demand {
	switch t.Op {
	case api.TermSend:
		return []demand{ask(api.InferSend, s.use(t.Text), typed(channel{list.Each(t.Args, s.value)}))}
	case api.TermIf:
		return []demand{ask(api.InferTest, s.value(t.Args[0]), typed(integer{}))}
	case api.TermGo:
		return []demand{ask(api.InferGo, s.use(t.Text), typed(place{}))}
	case api.TermWatch:
		return []demand{ask(api.InferWatch, s.use(t.Text), typed(place{}))}
	}
	return nil
}

func (e expression) asks(s *scope) []demand {
	kids := list.Each(e.Kids, s.value)
	if e.Op == api.TermSame {
		return []demand{ask(api.InferAlike, kids[0], kids[1])}
	}
	return list.Each(kids, func(k *node) demand { return ask(api.InferOperand, k, typed(integer{})) })
}

func (c clause) asks(s *scope) []demand {
	return list.Each(c.Joins, func(m api.TermMsg) demand {
		return ask(api.InferJoin, s.use(m.Text), typed(channel{list.Each(m.Names, c.body.use)}))
	})
}

func (t process) below(s *scope) iter.Seq2[*scope, part] {
	return func(yield func(*scope, part) bool) {
		for _, e := range t.Args {
			if !yield(s, expression{e}) {
				return
			}
		}
		in := s
		if t.Op == api.TermDef {
			in = s.define(t.Term)
		}
		for _, c := range t.Defs {
			if !yield(in, in.clause(c)) {
				return
			}
		}
		if t.Op == api.TermDef { // now that all demands ahead of its Kid have come
			in.settle(t.Defs)
		}
		for _, k := range t.Kids {
			if !yield(in, process{k}) {
				return
			}
		}
	}
}

func (e expression) below(s *scope) iter.Seq2[*scope, part] {
	return func(yield func(*scope, part) bool) {
		for _, k := range e.Kids {
			if !yield(s, expression{k}) {
				return
			}
		}
	}
}

func (c clause) below(s *scope) iter.Seq2[*scope, part] {
	return func(yield func(*scope, part) bool) {
		for _, d := range c.Defs {
			if !yield(s, s.clause(d)) {
				return
			}
		}
		for _, k := range c.Kids {
			if !yield(c.body, process{k}) {
				return
			}
		}
	}
}

// rules goes through the rules of a TermDef with these Defs.
func rules(defs []api.TermClause) iter.Seq[api.TermClause] {
	return func(yield func(api.TermClause) bool) {
		var visit func(defs []api.TermClause) bool
		visit = func(defs []api.TermClause) bool {
			for _, c := range defs {
				if c.Form == api.TermRule && !yield(c) || !visit(c.Defs) {
					return false
				}
			}
			return true
		}
		visit(defs)
	}
}
