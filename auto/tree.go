package auto

import (
	"cabotage/api"
	"cabotage/list"
)

// part is what code knows of the queues.
type part struct{ known, has int }

// with returns a part in which a channel is known too, and has something or not.
func (a part) with(c int, has bool) part {
	a.known |= only(c)
	if has {
		a.has |= only(c)
	}
	return a
}

// plan is how the tree of a part begins, and how deep it is.
type plan struct {
	api.AutoNode
	depth int
}

// planner finds the trees of the parts of a group, of the first one or of any one.
type planner struct {
	api.AutoGroup
	first bool
	plans map[part]plan // those that have been found
}

// plan returns how the tree of a part begins.
func (p planner) plan(a part) plan {
	x, is := p.plans[a]
	if !is {
		x = p.found(a)
		p.plans[a] = x
	}
	return x
}

// found finds how the tree of a part begins.
func (p planner) found(a part) plan {
	x := plan{AutoNode: api.AutoNode{Chan: -1, Rule: none}}
	if rule, is := p.decided(a); is {
		x.Rule = rule
		return x
	}
	for c := range members(all(p.AutoGroup) &^ a.known) {
		depth := 1 + max(p.plan(a.with(c, true)).depth, p.plan(a.with(c, false)).depth)
		if x.Chan < 0 || depth < x.depth {
			x.Chan, x.depth = c, depth
		}
	}
	return x
}

// decided returns the rule of the leaf that is the tree of a part, and whether it is one.
func (p planner) decided(a part) (int, bool) {
	open := false
	for n, rule := range p.Rules {
		out := !within(rule&a.known, a.has)
		switch {
		case within(rule, a.has): // it is sure
			return n, true
		case !out && p.first:
			return none, false
		case !out:
			open = true
		}
	}
	return none, !open
}

// laid returns nodes, and behind them the tree of a part.
func (p planner) laid(a part, nodes []api.AutoNode) []api.AutoNode {
	root, at := p.plan(a).AutoNode, len(nodes)
	nodes = append(nodes, root)
	if root.Chan < 0 {
		return nodes
	}
	nodes = p.laid(a.with(root.Chan, true), nodes)
	nodes[at].Yes, nodes[at].No = at+1, len(nodes)
	return p.laid(a.with(root.Chan, false), nodes)
}

// isTree reports whether a tree is as defined.
func isTree(g api.AutoGroup, t []api.AutoNode) bool {
	if len(t) == 0 || len(t) > api.AutoNodes {
		return false
	}
	for i, n := range t {
		behind := func(k int) bool { return i < k && k < len(t) }
		leaf := n.Chan == -1 && n.Yes == 0 && n.No == 0 && isRule(g, n.Rule)
		test := list.Numbered(n.Chan, g.Chans) && n.Rule == none && behind(n.Yes) && behind(n.No)
		if !leaf && !test {
			return false
		}
	}
	return true
}

// asked returns what a tree returns for a set, and the channels that it tests.
func asked(t []api.AutoNode, set int) (int, []int) {
	var tests []int
	n := t[0]
	for n.Chan >= 0 {
		tests = append(tests, n.Chan)
		if within(only(n.Chan), set) {
			n = t[n.Yes]
		} else {
			n = t[n.No]
		}
	}
	return n.Rule, tests
}
