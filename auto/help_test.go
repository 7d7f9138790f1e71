package auto_test

import (
	"encoding/json"
	"fmt"
	"math/rand/v2"
	"slices"
	"strconv"
	"strings"
	"testing"

	"cabotage/api"
	"cabotage/auto"
	"cabotage/show"
)

// example is the group G of the chapter.
func example() api.AutoGroup { return group(3, 3, 6) }

func group(chans int, rules ...int) api.AutoGroup { return api.AutoGroup{Chans: chans, Rules: rules} }

// bad are groups that are not as defined.
func bad() []api.AutoGroup {
	return []api.AutoGroup{
		{}, group(-1), group(7), group(1<<62, 1), group(2, 0), group(2, 1, -1), group(2, 4), group(1, 2), group(6, 64), group(3, 1<<62),
		group(6, 1, 2, 3, 4, 5, 6, 7, 8, 9, 10, 11),
	}
}

func numbers(l ...int) string { return show.All(l, " ", strconv.Itoa) }

// showWord writes each letter as Chan/Keep.
func showWord(l []api.AutoLetter) string {
	return show.All(l, " ", func(l api.AutoLetter) string { return fmt.Sprint(l.Chan, "/", l.Keep) })
}

// showMachine writes the acts of each state as Rule:Next.
func showMachine(m api.AutoMachine) string {
	return show.All(m.States, " | ", func(acts []api.AutoAct) string {
		return show.All(acts, ", ", func(a api.AutoAct) string { return fmt.Sprint(a.Rule, ":") + numbers(a.Next...) })
	})
}

// showTree writes a test as Chan Yes No, and a leaf as = Rule.
func showTree(t []api.AutoNode) string {
	return show.All(t, ", ", func(n api.AutoNode) string {
		switch {
		case n.Chan == -1 && n.Yes == 0 && n.No == 0:
			return fmt.Sprint("= ", n.Rule)
		case n.Chan != -1 && n.Rule == -1:
			return numbers(n.Chan, n.Yes, n.No)
		}
		return fmt.Sprint(n)
	})
}

// read returns the numbers of a text.
func read(t *testing.T, text string) []int {
	t.Helper()
	var out []int
	for _, s := range strings.Fields(text) {
		n, err := strconv.Atoi(s)
		if err != nil {
			t.Fatal(err)
		}
		out = append(out, n)
	}
	return out
}

// between returns the parts of a text between signs: none of an empty text.
func between(text, sign string) []string {
	if text == "" {
		return nil
	}
	return strings.Split(text, sign)
}

// word reads what showWord writes.
func word(t *testing.T, text string) []api.AutoLetter {
	t.Helper()
	var out []api.AutoLetter
	for _, s := range strings.Fields(text) {
		l := read(t, strings.Replace(s, "/", " ", 1))
		out = append(out, api.AutoLetter{Chan: l[0], Keep: l[1]})
	}
	return out
}

// automaton reads what showMachine writes.
func automaton(t *testing.T, text string) api.AutoMachine {
	t.Helper()
	var m api.AutoMachine
	for _, state := range between(text, "|") {
		var acts []api.AutoAct
		for _, act := range between(strings.TrimSpace(state), ",") {
			l := read(t, strings.Replace(act, ":", " ", 1))
			acts = append(acts, api.AutoAct{Rule: l[0], Next: l[1:]})
		}
		m.States = append(m.States, acts)
	}
	return m
}

// tree reads what showTree writes.
func tree(t *testing.T, text string) []api.AutoNode {
	t.Helper()
	var out []api.AutoNode
	for _, s := range between(text, ",") {
		if rule, is := strings.CutPrefix(strings.TrimSpace(s), "="); is {
			out = append(out, api.AutoNode{Chan: -1, Rule: read(t, rule)[0]})
			continue
		}
		l := read(t, s)
		out = append(out, api.AutoNode{Chan: l[0], Yes: l[1], No: l[2], Rule: -1})
	}
	return out
}

// machineOf returns the machine of a group.
func machineOf(t *testing.T, g api.AutoGroup) api.AutoMachine {
	t.Helper()
	m, e := auto.Machine(g)
	if e != api.OK {
		t.Fatal(g, e)
	}
	return m
}

// text is any data as text.
func text(a any) string {
	s, _ := json.Marshal(a)
	return strings.ReplaceAll(string(s), "null", "[]")
}

// maker makes groups, machines, words and runs by chance.
type maker struct{ *rand.Rand }

func newMaker(seed uint64) *maker { return &maker{rand.New(rand.NewPCG(seed, 8))} }

// group makes a group of at most so many channels.
func (m *maker) group(chans int) api.AutoGroup {
	g := api.AutoGroup{Chans: 1 + m.IntN(chans)}
	for range m.IntN(1 + m.IntN(api.AutoRules+1)) {
		rule := 1 + m.IntN(1<<g.Chans-1)
		if m.IntN(2) == 0 { // fewer channels, but one
			if less := rule & m.IntN(1<<g.Chans); less > 0 {
				rule = less
			}
		}
		g.Rules = append(g.Rules, rule)
	}
	return g
}

// machine makes a machine with so many states, in which few things happen.
func (m *maker) machine(g api.AutoGroup, states int) api.AutoMachine {
	var out api.AutoMachine
	for range states {
		var acts []api.AutoAct
		for c := range g.Chans {
			a := api.AutoAct{Rule: -1}
			if can := plainOf(g, c); len(can) > 0 && m.IntN(2) > 0 {
				a.Rule = can[m.IntN(min(2, len(can)))]
			}
			for range 1 << len(plainOthers(g, a.Rule, c)) {
				a.Next = append(a.Next, m.IntN(states))
			}
			acts = append(acts, a)
		}
		out.States = append(out.States, acts)
	}
	return out
}

// copies makes a machine in which each state of another one is there some times, and
// leads to any of those to which that state leads. It returns which state each one is.
func (m *maker) copies(a api.AutoMachine, states int) (api.AutoMachine, []int) {
	of := m.Perm(states)
	where := map[int][]int{}
	for i, n := range of {
		of[i] = n % len(a.States)
		where[of[i]] = append(where[of[i]], i)
	}
	var out api.AutoMachine
	for _, n := range of {
		var acts []api.AutoAct
		for _, act := range a.States[n] {
			b := api.AutoAct{Rule: act.Rule}
			for _, to := range act.Next {
				b.Next = append(b.Next, where[to][m.IntN(len(where[to]))])
			}
			acts = append(acts, b)
		}
		out.States = append(out.States, acts)
	}
	return out, of
}

// any machine for a group: its own, one by chance, or one of these with copies.
func (m *maker) any(t *testing.T, g api.AutoGroup) api.AutoMachine {
	t.Helper()
	a := machineOf(t, g)
	if m.IntN(3) > 0 {
		a = m.machine(g, 1+m.IntN(6))
	}
	if m.IntN(2) > 0 {
		a, _ = m.copies(a, min(api.AutoSize, len(a.States)+m.IntN(6)))
	}
	return a
}

// word makes a word of at most so many letters.
func (m *maker) word(g api.AutoGroup, most int) []api.AutoLetter {
	var out []api.AutoLetter
	for range m.IntN(most + 1) {
		out = append(out, api.AutoLetter{Chan: m.IntN(g.Chans), Keep: m.IntN(1 << g.Chans)})
	}
	return out
}

// below makes at most so many numbers that are less than another one.
func (m *maker) below(n, most int) []int {
	var out []int
	for range m.IntN(most + 1) {
		out = append(out, m.IntN(n))
	}
	return out
}

// copied is a machine with memory of its own.
func copied(m api.AutoMachine) api.AutoMachine {
	var out api.AutoMachine
	for _, acts := range m.States {
		var more []api.AutoAct
		for _, a := range acts {
			more = append(more, api.AutoAct{Rule: a.Rule, Next: slices.Clone(a.Next)})
		}
		out.States = append(out.States, more)
	}
	return out
}
