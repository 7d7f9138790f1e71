package auto

import (
	"math/bits"

	"cabotage/api"
	"cabotage/list"
)

// none stands for a rule where none reacts.
const none = -1

// formed reports whether a group is as defined.
func formed(g api.AutoGroup) bool {
	return 1 <= g.Chans && g.Chans <= api.AutoChans && len(g.Rules) <= api.AutoRules &&
		list.All(g.Rules, func(rule int) bool { return rule != 0 && isSet(g, rule) })
}

// all returns the set of all channels of a group.
func all(g api.AutoGroup) int { return only(g.Chans) - 1 }

// isSet reports whether a number is a set of channels of a group.
func isSet(g api.AutoGroup, set int) bool { return 0 <= set && set <= all(g) }

// isRule reports whether a number is that of a rule of a group, or stands for none.
func isRule(g api.AutoGroup, n int) bool { return n == none || list.Numbered(n, len(g.Rules)) }

// size returns how many channels a set has.
func size(set int) int { return bits.OnesCount(uint(set)) }

// ready returns the numbers of the rules that are ready for a set.
func ready(g api.AutoGroup, set int) []int {
	var out []int
	for n, rule := range g.Rules {
		if within(rule, set) {
			out = append(out, n)
		}
	}
	return out
}

// machineOf returns the machine of a group.
func machineOf(g api.AutoGroup) api.AutoMachine {
	m, _ := laid(0, func(set int) []api.AutoAct {
		var acts []api.AutoAct
		for c := range g.Chans {
			acts = append(acts, act(g, set, c))
		}
		return acts
	})
	return m
}

// act returns what a set at rest does when a message comes on a channel, with sets in
// Next.
func act(g api.AutoGroup, set, c int) api.AutoAct {
	set |= only(c)
	can := ready(g, set)
	if len(can) == 0 {
		return api.AutoAct{Rule: none, Next: []int{set}}
	}
	a := api.AutoAct{Rule: can[0]}
	taken := g.Rules[a.Rule]
	for keep := range subsets(taken &^ only(c)) {
		a.Next = append(a.Next, set&^taken|keep)
	}
	return a
}

// laid returns the machine of all that is met from a first key on, and the numbers that
// the keys have there as states; acts says what a key does, with keys in Next.
func laid(first int, acts func(key int) []api.AutoAct) (api.AutoMachine, map[int]int) {
	numbers, met := map[int]int{}, []int{}
	number := func(key int) int {
		if _, is := numbers[key]; !is {
			numbers[key] = len(met)
			met = append(met, key)
		}
		return numbers[key]
	}
	number(first)
	var m api.AutoMachine
	for i := 0; i < len(met); i++ {
		state := acts(met[i])
		m.States = append(m.States, leading(state, number))
	}
	return m, numbers
}

// leading returns acts that lead elsewhere: each to what to says of where it led.
func leading(acts []api.AutoAct, to func(int) int) []api.AutoAct {
	return list.Each(acts, func(a api.AutoAct) api.AutoAct {
		return api.AutoAct{Rule: a.Rule, Next: list.Each(a.Next, to)}
	})
}
