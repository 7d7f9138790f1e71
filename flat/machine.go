package flat

import (
	"slices"

	"cabotage/api"
	"cabotage/list"
	"cabotage/sol"
	"cabotage/state"
)

// machine is a flat solution that is being changed. It is never filled: where a program
// says a place of an environment, the index in the list of the node stands here.
type machine struct {
	state.Change
	flat  program
	deeds [api.TermWatch + 1]deed
}

// deed does a process at once, as a state.Process does.
type deed func(*machine, api.SolWait)

// starting returns a machine that has a copy of a flat solution, or ErrArg if this or
// the flat program is not formed.
func starting(f api.FlatProg, s api.Sol) (*machine, api.Errno) {
	q, e := lookAt(f, s)
	if e != api.OK {
		return nil, e
	}
	c := state.Change{Solution: state.Solution{Sol: state.Copied(s), ScopeProg: q.bare}}
	return &machine{Change: c, flat: q, deeds: [...]deed{
		api.TermNil:   (*machine).kids, // it has none
		api.TermSend:  (*machine).send,
		api.TermPar:   (*machine).kids,
		api.TermDef:   (*machine).define,
		api.TermIf:    (*machine).decide,
		api.TermGo:    (*machine).wait,
		api.TermStop:  (*machine).wait,
		api.TermWatch: (*machine).wait,
	}}, api.OK
}

// begin does Main, in the place 0.
func (m *machine) begin() {
	env := list.Each(m.flat.Take, func(n int) api.SolVal { return api.SolVal{Kind: api.SolFree, N: n} })
	m.process(api.SolWait{Node: m.Main, Env: env})
}

// process does a process at once.
func (m *machine) process(w api.SolWait) { m.deeds[m.Nodes[w.Node].Op](m, w) }

func (m *machine) kids(w api.SolWait) {
	for _, k := range m.Nodes[w.Node].Kids {
		m.process(api.SolWait{At: w.At, Node: k, Env: w.Env})
	}
}

// kept returns what a node takes of its environment.
func (m *machine) kept(w api.SolWait) []api.SolVal { return picked(w.Env, m.flat.Nodes[w.Node].Take) }

func (m *machine) send(w api.SolWait) {
	n := m.Nodes[w.Node]
	vals := list.Each(n.Args, func(e api.ScopeExp) api.SolVal { return value(e, w.Env) })
	m.Send(w.At, w.Env[n.N], vals)
}

func value(e api.ScopeExp, env []api.SolVal) api.SolVal {
	v, _ := sol.Value(e, env)
	return v
}

// define makes a group that holds what it takes; the Kid has the whole environment.
func (m *machine) define(w api.SolWait) {
	n, g := m.Nodes[w.Node], len(m.Groups)
	own := m.Make(n.N, w.At, m.kept(w))
	for i, s := range m.Defs[n.N].Spots {
		m.process(api.SolWait{At: m.Place(g, i+1), Node: s.Node, Env: m.Groups[g].Env})
	}
	m.process(api.SolWait{At: w.At, Node: n.Kids[0], Env: slices.Concat(w.Env, own)})
}

func (m *machine) decide(w api.SolWait) {
	n := m.Nodes[w.Node]
	kid := n.Kids[1]
	if v := value(n.Args[0], w.Env); v.Kind == api.SolInt && v.N != 0 {
		kid = n.Kids[0]
	}
	m.process(api.SolWait{At: w.At, Node: kid, Env: w.Env})
}

func (m *machine) wait(w api.SolWait) {
	w.Env = m.kept(w)
	m.Wait(w)
}
