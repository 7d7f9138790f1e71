package usage

import (
	"cabotage/api"
	"cabotage/list"
)

// asked returns what each count of a definition must at least be.
func (r reading) asked(def int) counts {
	d, at := r.Defs[def], r.at[def]
	least := nothing(d)
	for i := range d.Chans {
		least.chans[i] = r.inner(at, r.sizes[at]+i)
	}
	for i, rule := range d.Rules {
		least.rules[i] = many
		for _, c := range rule.Joins {
			least.rules[i] = min(least.rules[i], r.counts[def].chans[c])
		}
		// What a rule does that never reacts asks for nothing.
		if r.counts[def].rules[i] != none {
			r.values(rule, r.sizes[r.Nodes[at].Kids[0]], least.args)
		}
	}
	return least
}

// values makes the counts of the values that a rule's messages bring, which stand
// from a place on, at least what the rule sends to them.
func (r reading) values(rule api.ScopeRule, place int, args [][]count) {
	for _, c := range rule.Joins {
		for j := range args[c] {
			args[c][j] = args[c][j].or(r.sends(rule.Node, place))
			place++
		}
	}
}

// least returns the counts of the program's table: the least ones that are at least
// what they ask for themselves.
func (p program) least() []counts {
	next := list.Each(p.Defs, nothing)
grow:
	for {
		last := reading{p, next}
		next = nil
		for d := range p.Defs {
			next = append(next, last.asked(d))
		}
		for d := range next {
			if !next[d].equal(last.counts[d]) {
				continue grow
			}
		}
		break grow
	}
	return next
}
