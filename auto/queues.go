package auto

import (
	"slices"

	"cabotage/api"
	"cabotage/list"
)

// queues are the queues of a group while messages come, and who chooses what reacts.
type queues struct {
	api.AutoGroup
	left   []int           // for each channel how many messages its queue has
	choose func(n int) int // the rule that reacts when the message with a number has come
}

// empty returns the queues of a group at first.
func empty(g api.AutoGroup) *queues {
	return &queues{AutoGroup: g, left: make([]int, g.Chans)}
}

// canCome reports whether messages can come on some channels, one after the other.
func canCome(g api.AutoGroup, come []int) bool {
	return len(come) <= api.AutoMost && list.All(come, func(c int) bool { return list.Numbered(c, g.Chans) })
}

// canPick reports whether numbers are picks.
func canPick(picks []int) bool {
	return len(picks) <= api.AutoMost && list.All(picks, func(n int) bool { return n >= 0 })
}

// run returns for each message that comes the rule that reacts, and what is left; or
// ErrRule, if one is chosen that cannot react.
func (q *queues) run(come []int) ([]int, []int, api.Errno) {
	var rules []int
	for n, c := range come {
		q.left[c]++
		rule := q.choose(n)
		if rule != none && !q.react(q.Rules[rule]) {
			return nil, nil, api.ErrRule
		}
		rules = append(rules, rule)
	}
	return rules, q.left, api.OK
}

// react takes a message of each channel of a rule, or returns false if one has none.
func (q *queues) react(rule int) bool {
	if !within(rule, q.having(1)) {
		return false
	}
	for c := range members(rule) {
		q.left[c]--
	}
	return true
}

// having returns the set of the channels whose queues have so many messages, or more.
func (q *queues) having(many int) int {
	set := 0
	for c, n := range q.left {
		if n >= many {
			set |= only(c)
		}
	}
	return set
}

// says returns the choice of a machine when messages come on some channels. What has two
// messages keeps something behind a reaction.
func (q *queues) says(m machine, come []int) func(int) int {
	state := 0
	return func(n int) int {
		rule := m.rule(state, come[n])
		state = m.next(state, api.AutoLetter{Chan: come[n], Keep: q.having(2)})
		return rule
	}
}

// picked returns the choice by picks.
func (q *queues) picked(picks []int) func(int) int {
	return func(n int) int {
		can := ready(q.AutoGroup, q.having(1))
		switch {
		case len(can) == 0:
			return none
		case n < len(picks):
			return can[picks[n]%len(can)]
		}
		return can[0]
	}
}

// fair returns the fair choice: the rules stand in the order in which they are chosen,
// and one that reacts goes to the end.
func (q *queues) fair() func(int) int {
	var order []int
	for n := range q.Rules {
		order = append(order, n)
	}
	return func(int) int {
		set := q.having(1)
		at := slices.IndexFunc(order, func(n int) bool { return within(q.Rules[n], set) })
		if at < 0 {
			return none
		}
		rule := order[at]
		order = slices.Delete(order, at, at+1)
		order = append(order, rule)
		return rule
	}
}
