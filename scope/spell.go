package scope

import (
	"slices"

	"cabotage/api"
	"cabotage/list"
	"cabotage/term"
)

// speller makes the process for a program.
type speller struct {
	program
	taken []string // the Free, and the names that were chosen
}

// spell returns the process for a formed program; it may be too large.
func spell(p program) api.Term {
	w := speller{p, slices.Clone(p.Free)}
	return w.process(p.Main, w.taken)
}

// choose returns names for places that are added to an environment.
func (w *speller) choose(n int) []string {
	var names []string
	for range n {
		s := term.Fresh(w.taken)
		w.taken = append(w.taken, s)
		names = append(names, s)
	}
	return names
}

// process returns the process of a node whose environment has these names. Nodes
// are entered in order, as names are chosen so.
func (w *speller) process(n int, env []string) api.Term {
	at := w.Nodes[n]
	t := api.Term{Op: at.Op, Args: list.Each(at.Args, func(e api.ScopeExp) api.TermExp { return spellExp(e, env) })}
	if place, is := (node{at}).place(); is {
		t.Text = env[place]
	}
	in := env
	if at.Op == api.TermDef {
		t.Defs, in = w.define(w.Defs[at.N], env)
	}
	t.Kids = list.Each(at.Kids, func(k int) api.Term { return w.process(k, in) })
	return t
}

func spellExp(e api.ScopeExp, env []string) api.TermExp {
	if e.Op == api.TermName {
		return api.TermExp{Op: e.Op, Text: env[e.N]}
	}
	return api.TermExp{Op: e.Op, N: e.N, Kids: list.Each(e.Kids, func(k api.ScopeExp) api.TermExp { return spellExp(k, env) })}
}

// define returns the Defs that a definition becomes, and the names of their
// environment.
func (w *speller) define(d api.ScopeDef, env []string) ([]api.TermClause, []string) {
	names := w.choose(len(d.Chans) + len(d.Spots))
	in := slices.Concat(env, names)
	rules := list.Each(d.Rules, func(r api.ScopeRule) api.TermClause { return w.rule(d, r, names, in) })
	var places []api.TermClause
	for i, s := range d.Spots {
		c := api.TermClause{Form: api.TermPlace, Text: names[len(d.Chans)+i]}
		c.Kids = []api.Term{w.process(s.Node, in)}
		places = append(places, c)
	}
	return gather(d, rules, places, 0), in
}

func (w *speller) rule(d api.ScopeDef, r api.ScopeRule, channels, env []string) api.TermClause {
	c := api.TermClause{Form: api.TermRule}
	in := env
	for _, j := range r.Joins {
		names := w.choose(d.Chans[j].Many)
		c.Joins = append(c.Joins, api.TermMsg{Text: channels[j], Names: names})
		in = slices.Concat(in, names)
	}
	c.Kids = []api.Term{w.process(r.Node, in)}
	return c
}

// gather returns the Defs in a place: the rules, then the places, with theirs.
func gather(d api.ScopeDef, rules, places []api.TermClause, in int) []api.TermClause {
	var defs []api.TermClause
	for i, r := range d.Rules {
		if r.At == in {
			defs = append(defs, rules[i])
		}
	}
	for i, s := range d.Spots {
		if s.In == in {
			c := places[i]
			c.Defs = gather(d, rules, places, i+1)
			defs = append(defs, c)
		}
	}
	return defs
}
