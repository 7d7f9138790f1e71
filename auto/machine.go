package auto

import (
	"cabotage/api"
	"cabotage/list"
)

// machine is a machine that is as defined for its group.
type machine struct {
	api.AutoGroup
	api.AutoMachine
}

// lookInto returns a machine with its group, or ErrArg if one of them is not as defined.
func lookInto(g api.AutoGroup, m api.AutoMachine) (machine, api.Errno) {
	a := machine{g, m}
	if !formed(g) || len(m.States) == 0 || len(m.States) > api.AutoSize || !list.All(m.States, a.isState) {
		return machine{}, api.ErrArg
	}
	return a, api.OK
}

// isState reports whether acts are as defined.
func (m machine) isState(acts []api.AutoAct) bool {
	if len(acts) != m.Chans {
		return false
	}
	for c, a := range acts {
		if !isRule(m.AutoGroup, a.Rule) || a.Rule != none && !within(only(c), m.Rules[a.Rule]) {
			return false
		}
		if len(a.Next) != only(size(m.others(a.Rule, c))) || !list.All(a.Next, m.has) {
			return false
		}
	}
	return true
}

// has reports whether a number is that of a state.
func (m machine) has(state int) bool { return list.Numbered(state, len(m.States)) }

// isLetter reports whether a letter is as defined.
func (m machine) isLetter(l api.AutoLetter) bool {
	return list.Numbered(l.Chan, m.Chans) && isSet(m.AutoGroup, l.Keep)
}

// others returns the others of a reaction of a rule when a message has come on a
// channel; there are no others where none reacts.
func (m machine) others(rule, c int) int {
	if rule == none {
		return 0
	}
	return m.Rules[rule] &^ only(c)
}

// rule returns the rule that a state says when a message comes on a channel.
func (m machine) rule(state, c int) int { return m.States[state][c].Rule }

// next returns the state to which a letter leads from a state.
func (m machine) next(state int, l api.AutoLetter) int {
	a := m.States[state][l.Chan]
	return a.Next[place(m.others(a.Rule, l.Chan), l.Keep)]
}

// least returns the least machine, and for each state the number of its class there.
func (m machine) least() (api.AutoMachine, []int) {
	classes := m.classes()
	class := func(state int) int { return classes[state] }
	least, numbers := laid(class(0), func(state int) []api.AutoAct { return leading(m.States[state], class) })
	return least, list.Each(classes, func(class int) int {
		n, is := numbers[class]
		if !is {
			return -1
		}
		return n
	})
}

// classes returns for each state the first one that is alike.
func (m machine) classes() []int {
	far := m.told()
	var out []int
states:
	for state := range m.States {
		for other := range state {
			if _, is := far[pair{other, state}]; !is {
				out = append(out, other)
				continue states
			}
		}
		out = append(out, state)
	}
	return out
}
