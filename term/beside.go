package term

import (
	"slices"

	"cabotage/api"
	"cabotage/list"
)

// parts returns the parts beside each other of a process.
func parts(t api.Term) []api.Term {
	switch t.Op {
	case api.TermNil:
		return nil
	case api.TermPar:
		return append(parts(t.Kids[0]), parts(t.Kids[1])...)
	}
	return []api.Term{t}
}

// beside returns some processes beside each other.
func beside(l []api.Term) api.Term {
	switch len(l) {
	case 0:
		return api.Term{Op: api.TermNil}
	case 1:
		return l[0]
	}
	return api.Term{Op: api.TermPar, Kids: []api.Term{l[0], beside(l[1:])}}
}

// layout returns a process laid out.
func layout(t api.Term) api.Term {
	t.Defs = list.Each(t.Defs, layoutClause)
	t.Kids = list.Each(t.Kids, layout)
	return beside(parts(t))
}

func layoutClause(c api.TermClause) api.TermClause {
	c.Defs = list.Each(c.Defs, layoutClause)
	c.Kids = list.Each(c.Kids, layout)
	return c
}

// equal reports whether two processes are equal; nil and empty lists are.
func equal(a, b api.Term) bool {
	return a.Op == b.Op && a.Text == b.Text && slices.EqualFunc(a.Args, b.Args, equalExp) &&
		slices.EqualFunc(a.Defs, b.Defs, equalClause) && slices.EqualFunc(a.Kids, b.Kids, equal)
}

func equalExp(a, b api.TermExp) bool {
	return a.Op == b.Op && a.N == b.N && a.Text == b.Text && slices.EqualFunc(a.Kids, b.Kids, equalExp)
}

func equalClause(a, b api.TermClause) bool {
	return a.Form == b.Form && a.Text == b.Text && slices.EqualFunc(a.Joins, b.Joins, equalMsg) &&
		slices.EqualFunc(a.Defs, b.Defs, equalClause) && slices.EqualFunc(a.Kids, b.Kids, equal)
}

func equalMsg(a, b api.TermMsg) bool {
	return a.Text == b.Text && slices.Equal(a.Names, b.Names)
}
