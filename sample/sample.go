// Package sample makes programs by chance, for the tests of the layers. It has no
// chance of its own: whoever asks for a program brings it along.
package sample

import (
	"slices"

	"cabotage/api"
	"cabotage/list"
	"cabotage/scope"
)

// Below returns a number from 0 to below n, by chance.
type Below func(n int) int

// What the places of an environment are: a number from 0 on is a channel of so many
// values.
const (
	Anything = -1 // a free name, or the name of what a message brings
	Place    = -2
)

// maker makes one program.
type maker struct {
	below Below
	chans int // the most channels that a definition has
	api.ScopeProg
}

// Program makes a formed program that begins with a definition, often one that is not
// in order; none of its definitions has more than some channels.
func Program(below Below, chans int) api.ScopeProg {
	// A program that is not deep is formed.
	for depth := 2 + below(4); ; depth-- {
		m := maker{below: below, chans: chans}
		var env []int
		for _, s := range []string{"o", "out"}[:below(3)] {
			m.Free = append(m.Free, s)
			env = append(env, Anything)
		}
		m.Nodes = append(m.Nodes, api.ScopeNode{})
		m.definition(0, depth, env)
		if scope.Check(m.ScopeProg) != api.OK && depth > 1 {
			continue
		}
		if below(2) == 0 {
			return Renumbered(m.ScopeProg, m.order(len(m.Nodes)), m.order(len(m.Defs)))
		}
		return m.ScopeProg
	}
}

// order returns the numbers below n, in some order.
func (m *maker) order(n int) []int {
	l := make([]int, n)
	for i := range l {
		j := m.below(i + 1)
		l[i] = l[j]
		l[j] = i
	}
	return l
}

// Renumbered returns a formed program whose nodes and definitions have other numbers.
func Renumbered(p api.ScopeProg, nodes, defs []int) api.ScopeProg {
	q := api.ScopeProg{Free: slices.Clone(p.Free), Nodes: make([]api.ScopeNode, len(nodes)), Defs: make([]api.ScopeDef, len(defs)), Main: nodes[p.Main]}
	for i, n := range p.Nodes {
		n.Args, n.Kids = list.Each(n.Args, copied), slices.Clone(n.Kids)
		for j, k := range n.Kids {
			n.Kids[j] = nodes[k]
		}
		if n.Op == api.TermDef {
			n.N = defs[n.N]
		}
		q.Nodes[nodes[i]] = n
	}
	for i, d := range p.Defs {
		d := api.ScopeDef{Chans: slices.Clone(d.Chans), Spots: slices.Clone(d.Spots), Rules: slices.Clone(d.Rules)}
		for j, r := range d.Rules {
			d.Rules[j].Joins, d.Rules[j].Node = slices.Clone(r.Joins), nodes[r.Node]
		}
		for j, s := range d.Spots {
			d.Spots[j].Node = nodes[s.Node]
		}
		q.Defs[defs[i]] = d
	}
	return q
}

func copied(e api.ScopeExp) api.ScopeExp {
	e.Kids = list.Each(e.Kids, copied)
	return e
}

// node adds a node, with all that is below it, and returns its number.
func (m *maker) node(depth int, env []int) int {
	at := len(m.Nodes)
	m.Nodes = append(m.Nodes, api.ScopeNode{})
	n := m.below(14)
	if depth <= 1 {
		n %= 6
	}
	switch {
	case n < 5 && len(env) > 0:
		m.Nodes[at] = Send(m.below, env)
	case n < 6:
		m.Nodes[at] = api.ScopeNode{Op: []api.TermOp{api.TermNil, api.TermNil, api.TermNil, api.TermStop}[m.below(4)]}
	case n < 9:
		m.kids(at, api.ScopeNode{Op: api.TermPar}, 2, depth, env)
	case n < 10:
		m.kids(at, api.ScopeNode{Op: api.TermIf, Args: []api.ScopeExp{m.expression(2, env)}}, 2, depth, env)
	case n < 12 && len(env) > 0:
		asked := m.pick(env, func(sort int) bool { return sort == Place })
		m.kids(at, api.ScopeNode{Op: []api.TermOp{api.TermGo, api.TermWatch}[m.below(2)], N: asked}, 1, depth, env)
	default:
		m.definition(at, depth, env)
	}
	return at
}

// kids makes the node at a number one that has so many Kids.
func (m *maker) kids(at int, n api.ScopeNode, many, depth int, env []int) {
	for range many {
		k := m.node(depth-1, env)
		n.Kids = append(n.Kids, k)
	}
	m.Nodes[at] = n
}

// pick returns a place of an environment, most of the time one of the later ones, and
// one that is wanted.
func (m *maker) pick(env []int, wanted func(sort int) bool) int {
	n := 0
	for range 8 {
		n = len(env) - 1 - min(m.below(len(env)), m.below(len(env)))
		if wanted(env[n]) {
			break
		}
	}
	return n
}

// Send makes a TermSend for an environment that is not empty, most of the time one
// that brings as much as its channel takes.
func Send(below Below, env []int) api.ScopeNode {
	m := maker{below: below}
	return m.send(m.pick(env, func(sort int) bool { return sort >= 0 || sort == Anything && m.below(3) == 0 }), env)
}

// send makes a TermSend to a place of the environment.
func (m *maker) send(to int, env []int) api.ScopeNode {
	n := api.ScopeNode{Op: api.TermSend, N: to}
	many := env[to]
	if many < 0 || m.below(12) == 0 {
		many = m.below(api.TermArgs + 1)
	}
	for range many {
		e := m.expression(2, env)
		n.Args = append(n.Args, e)
	}
	return n
}

// expression makes an expression of a depth, most of the time a name.
func (m *maker) expression(depth int, env []int) api.ScopeExp {
	switch n := m.below(12); {
	case n == 0 && depth > 1:
		sign := api.TermAdd + api.TermSign(m.below(5))
		a, b := m.expression(depth-1, env), m.expression(depth-1, env)
		return api.ScopeExp{Op: sign, Kids: []api.ScopeExp{a, b}}
	case n < 4 || len(env) == 0:
		return api.ScopeExp{Op: api.TermInt, N: m.below(5) - 1}
	}
	return api.ScopeExp{Op: api.TermName, N: m.pick(env, func(int) bool { return true })}
}

// definition makes the node at a number a TermDef.
func (m *maker) definition(at, depth int, env []int) {
	number := len(m.Defs)
	m.Defs = append(m.Defs, api.ScopeDef{})
	var d api.ScopeDef
	for i := range []int{0, 1, 1, 2, 3}[m.below(5)] {
		d.Spots = append(d.Spots, api.ScopeSpot{In: m.below(i + 1)})
	}
	env = slices.Clone(env)
	for range min(m.chans, 1+m.below(4)) {
		c := api.ScopeChan{At: m.below(1 + m.below(len(d.Spots)+1)), Many: []int{0, 0, 1, 1, 2, 3}[m.below(6)]}
		d.Chans = append(d.Chans, c)
		env = append(env, c.Many)
	}
	env = append(env, slices.Repeat([]int{Place}, len(d.Spots))...)
	chans := m.order(len(d.Chans))
	slices.SortStableFunc(chans, func(a, b int) int { return d.Chans[a].At - d.Chans[b].At })
	for len(chans) > 0 {
		chans = chans[m.rule(&d, chans):]
	}
	for i, r := range d.Rules {
		inner := slices.Clone(env)
		for _, c := range r.Joins {
			inner = append(inner, slices.Repeat([]int{Anything}, d.Chans[c].Many)...)
		}
		d.Rules[i].Node = m.node(depth-1, inner)
	}
	for i := range d.Spots {
		d.Spots[i].Node = m.node(depth-1, env)
	}
	m.Defs[number] = d
	own := len(env) - len(d.Chans) - len(d.Spots)
	k := m.start(depth-1, env, own, own+len(d.Chans))
	m.Nodes[at] = api.ScopeNode{Op: api.TermDef, N: number, Kids: []int{k}}
}

// start adds a node that sends to some of the channels between two places of the
// environment, and does something else beside that.
func (m *maker) start(depth int, env []int, from, to int) int {
	if from == to {
		return m.node(depth, env)
	}
	if m.below(2) == 0 {
		return m.start(depth, env, from+1, to)
	}
	at, n := len(m.Nodes), m.send(from, env)
	m.Nodes = append(m.Nodes, api.ScopeNode{}, n)
	k := m.start(depth, env, from+1, to)
	m.Nodes[at] = api.ScopeNode{Op: api.TermPar, Kids: []int{at + 1, k}}
	return at
}

// rule adds a rule, or two, for the first ones of some channels, and returns of how
// many.
func (m *maker) rule(d *api.ScopeDef, chans []int) int {
	r := api.ScopeRule{At: d.Chans[chans[0]].At}
	for _, c := range chans {
		if d.Chans[c].At != r.At || len(r.Joins) > m.below(api.TermJoins) {
			break
		}
		r.Joins = append(r.Joins, c)
	}
	d.Rules = append(d.Rules, r)
	if m.below(4) == 0 {
		r.Joins = slices.Clone(r.Joins)
		slices.Reverse(r.Joins)
		d.Rules = append(d.Rules, r)
	}
	return len(r.Joins)
}
