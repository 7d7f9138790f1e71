package sol

import (
	"slices"

	"cabotage/api"
	"cabotage/list"
	"cabotage/state"
)

// change is a solution that is being changed.
type change struct {
	state.Change
	deeds map[api.TermOp]deed
}

// deed does a process at once, as a state.Process does.
type deed func(*change, api.SolWait)

// deeds returns what the kinds of processes do.
func deeds() map[api.TermOp]deed {
	return map[api.TermOp]deed{
		api.TermNil:   (*change).kids, // it has none
		api.TermSend:  (*change).send,
		api.TermPar:   (*change).kids,
		api.TermDef:   (*change).define,
		api.TermIf:    (*change).decide,
		api.TermGo:    (*change).wait,
		api.TermStop:  (*change).wait,
		api.TermWatch: (*change).wait,
	}
}

// changing returns a copy of a solution that can be changed, or ErrArg if the program
// or the solution is not formed.
func changing(p api.ScopeProg, s api.Sol) (*change, api.Errno) {
	q, e := lookInto(p, s)
	if e != api.OK {
		return nil, e
	}
	q.Sol = state.Copied(s)
	return &change{state.Change{Solution: q.Solution}, deeds()}, api.OK
}

// begin does Main, in the place 0.
func (c *change) begin() {
	var env []api.SolVal
	for i := range c.Free {
		env = append(env, api.SolVal{Kind: api.SolFree, N: i})
	}
	c.process(api.SolWait{Node: c.Main, Env: env})
}

// process does a process at once. What is done needs no count: a step does no node
// twice, and no program has more nodes than the api.SolWork that a step may do.
func (c *change) process(w api.SolWait) {
	c.deeds[c.Nodes[w.Node].Op](c, w)
}

func (c *change) kids(w api.SolWait) {
	for _, k := range c.Nodes[w.Node].Kids {
		c.process(api.SolWait{At: w.At, Node: k, Env: w.Env})
	}
}

func (c *change) send(w api.SolWait) {
	n := c.Nodes[w.Node]
	vals := list.Each(n.Args, func(e api.ScopeExp) api.SolVal { return value(e, w.Env) })
	c.Send(w.At, w.Env[n.N], vals)
}

func (c *change) define(w api.SolWait) {
	n, g := c.Nodes[w.Node], len(c.Groups)
	env := slices.Concat(w.Env, c.Make(n.N, w.At, w.Env))
	for i, s := range c.Defs[n.N].Spots {
		c.process(api.SolWait{At: c.Place(g, i+1), Node: s.Node, Env: env})
	}
	c.process(api.SolWait{At: w.At, Node: n.Kids[0], Env: env})
}

func (c *change) decide(w api.SolWait) {
	n := c.Nodes[w.Node]
	kid := n.Kids[1]
	if number(value(n.Args[0], w.Env)) != 0 {
		kid = n.Kids[0]
	}
	c.process(api.SolWait{At: w.At, Node: kid, Env: w.Env})
}

func (c *change) wait(w api.SolWait) {
	w.Env = slices.Clone(w.Env)
	c.Wait(w)
}
