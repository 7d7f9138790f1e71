package auto_test

import (
	"slices"

	"cabotage/api"
)

// A second reading of the chapter, as near to its words as can be, against which the
// functions are held.

// plainIn reports whether a channel is in a set.
func plainIn(set, c int) bool {
	for range c {
		set /= 2
	}
	return set%2 == 1
}

// plainChans are the channels of a set.
func plainChans(set int) []int {
	var out []int
	for c := range api.AutoChans {
		if plainIn(set, c) {
			out = append(out, c)
		}
	}
	return out
}

// plainSet is the set of some channels.
func plainSet(is func(c int) bool) int {
	set, value := 0, 1
	for c := range api.AutoChans {
		if is(c) {
			set += value
		}
		value *= 2
	}
	return set
}

func plainReady(g api.AutoGroup, set int) []int {
	var out []int
	for n, rule := range g.Rules {
		is := true
		for _, c := range plainChans(rule) {
			is = is && plainIn(set, c)
		}
		if is {
			out = append(out, n)
		}
	}
	return out
}

// plainOf are the rules that have a channel.
func plainOf(g api.AutoGroup, c int) []int {
	var out []int
	for n, rule := range g.Rules {
		if plainIn(rule, c) {
			out = append(out, n)
		}
	}
	return out
}

// plainOthers are the others of a reaction.
func plainOthers(g api.AutoGroup, rule, c int) []int {
	if rule < 0 {
		return nil
	}
	return slices.DeleteFunc(plainChans(g.Rules[rule]), func(d int) bool { return d == c })
}

// plainMachine is the machine of a group, and the sets that its states are: the states
// are first the sets themselves, and then get their numbers.
func plainMachine(g api.AutoGroup) (api.AutoMachine, []int) {
	acts := map[int][]api.AutoAct{}
	for set := range 1 << g.Chans {
		if len(plainReady(g, set)) > 0 {
			continue
		}
		for c := range g.Chans {
			with := plainSet(func(d int) bool { return d == c || plainIn(set, d) })
			a := api.AutoAct{Rule: -1, Next: []int{with}}
			if can := plainReady(g, with); len(can) > 0 {
				a = api.AutoAct{Rule: can[0]}
				others := plainOthers(g, a.Rule, c)
				for n := range 1 << len(others) {
					a.Next = append(a.Next, plainSet(func(d int) bool {
						i := slices.Index(others, d)
						return plainIn(set, d) && (i < 0 || plainIn(n, i))
					}))
				}
			}
			acts[set] = append(acts[set], a)
		}
	}
	return plainNumbered(acts, 0)
}

// plainNumbered is the machine of the states that are met from one on, and these states.
func plainNumbered(acts map[int][]api.AutoAct, first int) (api.AutoMachine, []int) {
	met := []int{first}
	for i := 0; i < len(met); i++ {
		for _, a := range acts[met[i]] {
			for _, n := range a.Next {
				if !slices.Contains(met, n) {
					met = append(met, n)
				}
			}
		}
	}
	var m api.AutoMachine
	for _, n := range met {
		var state []api.AutoAct
		for _, a := range acts[n] {
			b := api.AutoAct{Rule: a.Rule}
			for _, to := range a.Next {
				b.Next = append(b.Next, slices.Index(met, to))
			}
			state = append(state, b)
		}
		m.States = append(m.States, state)
	}
	return m, met
}

// plainFormed reports whether a machine is as defined for a group that is.
func plainFormed(g api.AutoGroup, m api.AutoMachine) bool {
	if len(m.States) < 1 || len(m.States) > 64 {
		return false
	}
	for _, acts := range m.States {
		if len(acts) != g.Chans {
			return false
		}
		for c, a := range acts {
			if a.Rule != -1 && !slices.Contains(plainOf(g, c), a.Rule) || len(a.Next) != 1<<len(plainOthers(g, a.Rule, c)) {
				return false
			}
			for _, n := range a.Next {
				if n < 0 || n >= len(m.States) {
					return false
				}
			}
		}
	}
	return true
}

// plainStep is the rule that reacts at a letter, and the next state.
func plainStep(g api.AutoGroup, m api.AutoMachine, state int, l api.AutoLetter) (int, int) {
	a := m.States[state][l.Chan]
	n, value := 0, 1
	for _, c := range plainOthers(g, a.Rule, l.Chan) {
		if plainIn(l.Keep, c) {
			n += value
		}
		value *= 2
	}
	return a.Rule, a.Next[n]
}

// plainLetters are all letters of a group, in order.
func plainLetters(g api.AutoGroup) []api.AutoLetter {
	var out []api.AutoLetter
	for c := range g.Chans {
		for keep := range 1 << g.Chans {
			out = append(out, api.AutoLetter{Chan: c, Keep: keep})
		}
	}
	return out
}

// plainAlike says of each two states whether they are alike: all are, but those that a
// letter tells apart, or leads to some that are not.
func plainAlike(g api.AutoGroup, m api.AutoMachine) [][]bool {
	n := len(m.States)
	alike := make([][]bool, n)
	for i := range alike {
		alike[i] = slices.Repeat([]bool{true}, n)
	}
	for changed := true; changed; {
		changed = false
		for a := range n {
			for b := range n {
				for _, l := range plainLetters(g) {
					if !alike[a][b] {
						break
					}
					r, x := plainStep(g, m, a, l)
					s, y := plainStep(g, m, b, l)
					if r != s || !alike[x][y] {
						alike[a][b], changed = false, true
					}
				}
			}
		}
	}
	return alike
}

// plainMet says of each state whether a word leads to it from the state 0.
func plainMet(g api.AutoGroup, m api.AutoMachine) []bool {
	met := make([]bool, len(m.States))
	met[0] = true
	for range m.States {
		for a := range m.States {
			for _, l := range plainLetters(g) {
				if _, to := plainStep(g, m, a, l); met[a] {
					met[to] = true
				}
			}
		}
	}
	return met
}

// plainLeast is the least machine, and the classes.
func plainLeast(g api.AutoGroup, m api.AutoMachine) (api.AutoMachine, []int) {
	alike := plainAlike(g, m)
	acts := map[int][]api.AutoAct{}
	name := func(a int) int { return slices.Index(alike[a], true) }
	for a, state := range m.States {
		for _, act := range state {
			b := api.AutoAct{Rule: act.Rule}
			for _, to := range act.Next {
				b.Next = append(b.Next, name(to))
			}
			acts[a] = append(acts[a], b)
		}
	}
	least, met := plainNumbered(acts, 0)
	var classes []int
	for a := range m.States {
		classes = append(classes, slices.Index(met, name(a)))
	}
	return least, classes
}

// plainOwn reports whether the Keep of a letter has only others of a reaction.
func plainOwn(g api.AutoGroup, rule int, l api.AutoLetter) bool {
	others := plainOthers(g, rule, l.Chan)
	return !slices.ContainsFunc(plainChans(l.Keep), func(c int) bool { return !slices.Contains(others, c) })
}

// plainTells reports whether a word tells two states apart.
func plainTells(g api.AutoGroup, m api.AutoMachine, a, b int, word []api.AutoLetter) bool {
	for i, l := range word {
		r, x := plainStep(g, m, a, l)
		s, y := plainStep(g, m, b, l)
		if i == len(word)-1 {
			return r != s && l.Keep == 0
		}
		if r != s || !plainOwn(g, r, l) {
			return false
		}
		a, b = x, y
	}
	return false
}

// plainWord is the first word of so many letters that tells two states apart, of all
// that there are, in order.
func plainWord(g api.AutoGroup, m api.AutoMachine, a, b, many int) []api.AutoLetter {
	for _, l := range plainLetters(g) {
		r, x := plainStep(g, m, a, l)
		s, y := plainStep(g, m, b, l)
		switch {
		case many == 1 && r != s && l.Keep == 0:
			return []api.AutoLetter{l}
		case many > 1 && r == s && plainOwn(g, r, l):
			if w := plainWord(g, m, x, y, many-1); w != nil {
				return append([]api.AutoLetter{l}, w...)
			}
		}
	}
	return nil
}

// plainQueues are queues of messages, each the number of when it came.
type plainQueues [][]int

func (q plainQueues) set() int {
	return plainSet(func(c int) bool { return c < len(q) && len(q[c]) > 0 })
}

func (q plainQueues) left() []int {
	var out []int
	for _, l := range q {
		out = append(out, len(l))
	}
	return out
}

// plainRun lets messages come; choose is asked which rule reacts, -1 if none, and told
// when it did. It returns false if one cannot react.
func plainRun(g api.AutoGroup, come []int, choose func(n int, q plainQueues) int, did func(n, rule int, q plainQueues)) ([]int, []int, bool) {
	q := make(plainQueues, g.Chans)
	var rules []int
	for n, c := range come {
		q[c] = append(q[c], n)
		rule := choose(n, q)
		if rule >= 0 {
			for _, d := range plainChans(g.Rules[rule]) {
				if len(q[d]) == 0 {
					return nil, nil, false
				}
				q[d] = q[d][1:]
			}
		}
		did(n, rule, q)
		rules = append(rules, rule)
	}
	return rules, q.left(), true
}

// plainSays is a run with the choice of a machine.
func plainSays(g api.AutoGroup, m api.AutoMachine, come []int) ([]int, []int, bool) {
	state := 0
	return plainRun(g, come, func(n int, _ plainQueues) int { return m.States[state][come[n]].Rule }, func(n, _ int, q plainQueues) {
		_, state = plainStep(g, m, state, api.AutoLetter{Chan: come[n], Keep: q.set()})
	})
}

// plainPicked is one with the choice by picks.
func plainPicked(g api.AutoGroup, come, picks []int) ([]int, []int) {
	rules, left, _ := plainRun(g, come, func(n int, q plainQueues) int {
		can := plainReady(g, q.set())
		if len(can) == 0 {
			return -1
		}
		pick := 0
		if n < len(picks) {
			pick = picks[n]
		}
		return can[pick%len(can)]
	}, func(int, int, plainQueues) {})
	return rules, left
}

// plainFair is one with the fair choice.
func plainFair(g api.AutoGroup, come []int) ([]int, []int) {
	last := slices.Repeat([]int{-1}, len(g.Rules)) // when each rule reacted
	rules, left, _ := plainRun(g, come, func(n int, q plainQueues) int {
		best := -1
		for _, r := range plainReady(g, q.set()) {
			if best < 0 || last[r] < last[best] {
				best = r
			}
		}
		return best
	}, func(n, rule int, _ plainQueues) {
		if rule >= 0 {
			last[rule] = n
		}
	})
	return rules, left
}

// plainAgree are the sets that agree with a part.
func plainAgree(g api.AutoGroup, known, has int) []int {
	var out []int
	for set := range 1 << g.Chans {
		if plainSet(func(c int) bool { return plainIn(set, c) && plainIn(known, c) }) == has {
			out = append(out, set)
		}
	}
	return out
}

// plainRight reports whether a tree may return a rule for a set.
func plainRight(g api.AutoGroup, set, rule int, first bool) bool {
	can := plainReady(g, set)
	switch {
	case len(can) == 0:
		return rule == -1
	case first:
		return rule == can[0]
	}
	return slices.Contains(can, rule)
}

// plainLeaf is the rule that may be returned for all sets that agree with a part, the
// least one, and whether there is one.
func plainLeaf(g api.AutoGroup, known, has int, first bool) (int, bool) {
	for rule := -1; rule < len(g.Rules); rule++ {
		if !slices.ContainsFunc(plainAgree(g, known, has), func(set int) bool { return !plainRight(g, set, rule, first) }) {
			return rule, true
		}
	}
	return 0, false
}

// plainTree is the tree of a part, with the numbers that its nodes have behind some
// others, and its depth; any channel that is not known is tried.
func plainTree(g api.AutoGroup, known, has int, first bool, at int) ([]api.AutoNode, int) {
	if rule, is := plainLeaf(g, known, has, first); is {
		return []api.AutoNode{{Chan: -1, Rule: rule}}, 0
	}
	var best []api.AutoNode
	least := -1
	for c := range g.Chans {
		if plainIn(known, c) {
			continue
		}
		yes, d := plainTree(g, known+1<<c, has+1<<c, first, at+1)
		no, e := plainTree(g, known+1<<c, has, first, at+1+len(yes))
		if depth := 1 + max(d, e); least < 0 || depth < least {
			least = depth
			best = slices.Concat([]api.AutoNode{{Chan: c, Yes: at + 1, No: at + 1 + len(yes), Rule: -1}}, yes, no)
		}
	}
	return best, least
}

// plainAsk is what a tree returns for a set, and what it tests.
func plainAsk(t []api.AutoNode, n, set int) (int, []int) {
	if t[n].Chan == -1 {
		return t[n].Rule, nil
	}
	to := t[n].No
	if plainIn(set, t[n].Chan) {
		to = t[n].Yes
	}
	rule, tests := plainAsk(t, to, set)
	return rule, append([]int{t[n].Chan}, tests...)
}

// plainIsTree reports whether a tree is as defined.
func plainIsTree(g api.AutoGroup, t []api.AutoNode) bool {
	for i, n := range t {
		leaf := n == api.AutoNode{Chan: -1, Rule: n.Rule} && n.Rule >= -1 && n.Rule < len(g.Rules)
		test := n.Chan >= 0 && n.Chan < g.Chans && n.Rule == -1 && min(n.Yes, n.No) > i && max(n.Yes, n.No) < len(t)
		if leaf == test {
			return false
		}
	}
	return len(t) > 0 && len(t) < 128
}

// plainDepth is the depth of a tree from a node on.
func plainDepth(t []api.AutoNode, n int) int {
	if t[n].Chan == -1 {
		return 0
	}
	return 1 + max(plainDepth(t, t[n].Yes), plainDepth(t, t[n].No))
}

// plainCheck reports whether a group is as defined.
func plainCheck(g api.AutoGroup) bool {
	if g.Chans < 1 || g.Chans > 6 || len(g.Rules) > 10 {
		return false
	}
	for _, rule := range g.Rules {
		if l := plainChans(rule); rule < 0 || rule > 63 || len(l) == 0 || l[len(l)-1] >= g.Chans {
			return false
		}
	}
	return true
}
