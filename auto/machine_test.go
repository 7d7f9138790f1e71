package auto_test

import (
	"slices"
	"strings"
	"testing"

	"cabotage/api"
	"cabotage/auto"
	"cabotage/sample"
)

// P8.2 (Machine, Formed)

// five is the machine of the example, whose states are the sets 0 1 2 4 5.
const five = "-1:1, -1:2, -1:3 | -1:1, 0:0 1, -1:4 | 0:0 2, -1:2, 1:0 2 | -1:4, 1:0 3, -1:3 | -1:4, 0:3 4, -1:4"

func TestMachine(t *testing.T) {
	for _, c := range []struct {
		g    api.AutoGroup
		want string
	}{
		{example(), five}, {group(1), "-1:1 | -1:1"}, {group(1, 1), "0:0"}, {group(1, 1, 1), "0:0"}, {group(2, 3), "-1:1, -1:2 | -1:1, 0:0 1 | 0:0 2, -1:2"},
		{group(2, 3, 3), "-1:1, -1:2 | -1:1, 0:0 1 | 0:0 2, -1:2"},
		// a rule of one channel is behind one of two
		{group(2, 3, 1), "1:0, -1:1 | 0:0 1, -1:1"}, {group(2, 1, 3), "0:0, -1:1 | 0:1, -1:1"},
		// with three channels the others of the rule are two: with the last channel, of the set 3, it leads to 0 1 2 3
		{group(3, 7), "-1:1, -1:2, -1:3 | -1:1, -1:4, -1:5 | -1:4, -1:2, -1:6 | -1:5, -1:6, -1:3 | -1:4, -1:4, 0:0 1 2 4 | -1:5, 0:0 1 3 5, -1:5 | 0:0 2 3 6, -1:6, -1:6"},
	} {
		m, e := auto.Machine(c.g)
		if e != api.OK || showMachine(m) != c.want {
			t.Error(c.g, showMachine(m), e)
		}
	}
}

func TestMachinesByChance(t *testing.T) {
	m := newMaker(2)
	for range 300 {
		g := m.group(api.AutoChans)
		a, e := auto.Machine(g)
		want, sets := plainMachine(g)
		if e != api.OK || showMachine(a) != showMachine(want) {
			t.Fatal(g, showMachine(a), showMachine(want), e)
		}
		if e := auto.Formed(g, a); e != api.OK {
			t.Fatal(g, showMachine(a), e)
		}
		rests, _ := auto.Rests(g)
		if slices.Sort(sets); numbers(sets...) != numbers(rests...) {
			t.Fatal(g, sets, rests)
		}
	}
}

func TestFormed(t *testing.T) {
	row := strings.Repeat("-1:0 | ", 63) + "-1:63"
	for _, c := range []struct {
		g    api.AutoGroup
		m    string
		want bool
	}{
		{example(), five, true}, {group(1), row, true}, {group(1), row + " | -1:0", false}, {group(1), row + " | -1:64", false}, {group(1), "", false},
		{group(1, 1), "-1:0", true}, {group(1, 1), "0:0", true}, {group(1, 1), "1:0", false}, {group(1, 1), "-2:0", false}, {group(1, 1, 1), "1:0", true}, {group(1), "0:0", false},
		{group(1, 1), "-1:1", false}, {group(1, 1), "-1:-1", false}, {group(1, 1), "-1:1 | -1:0", true}, {group(1, 1), "0:1 | 0:2", false},
		{group(1, 1), "0:0, 0:0", false}, {group(2, 3), "-1:0", false}, {group(2, 3), "-1:0, -1:0 | -1:0", false}, {group(1), "-1:0 |  ", false},
		{group(2, 3), "0:0 0, 0:0 0", true}, {group(2, 3), "0:0, 0:0 0", false}, {group(2, 3), "0:0 0 0, 0:0 0", false}, {group(2, 3), "0:0 0 0 0, 0:0 0", false}, {group(2, 3), "-1:0 0, 0:0 0", false}, {group(2, 3), "-1:, 0:0 0", false},
		{group(2, 1), "0:0, -1:0", true}, {group(2, 1), "0:0, 0:0", false}, {group(2, 1), "0:0, 0:0 0", false}, {group(2, 3, 2), "0:0 0, 1:0", true}, {group(2, 3, 2), "1:0, 0:0 0", false},
	} {
		m := automaton(t, c.m)
		if e := auto.Formed(c.g, m); e == api.OK != c.want || e != api.OK && e != api.ErrArg {
			t.Error(c.g, c.m, e)
		}
		if !c.want {
			refuse(t, c.g, m)
		}
	}
	for _, g := range bad() {
		refuse(t, g, automaton(t, "-1:0"))
		refuse(t, g, automaton(t, "-1:0, -1:0"))
	}
}

// refuse asks of all functions that ErrArg, and nothing else, is returned for a group or
// a machine.
func refuse(t *testing.T, g api.AutoGroup, m api.AutoMachine) {
	t.Helper()
	if e := auto.Formed(g, m); e != api.ErrArg {
		t.Error("Formed", g, showMachine(m), e)
	}
	if l, n, e := auto.Go(g, m, 0, nil); e != api.ErrArg || len(l)+n > 0 {
		t.Error("Go", g, showMachine(m), l, n, e)
	}
	if a, l, e := auto.Least(g, m); e != api.ErrArg || len(a.States)+len(l) > 0 {
		t.Error("Least", g, showMachine(m), a, l, e)
	}
	if l, is, e := auto.Apart(g, m, 0, 0); e != api.ErrArg || len(l) > 0 || is {
		t.Error("Apart", g, showMachine(m), l, is, e)
	}
	if l, left, e := auto.Run(g, m, nil); e != api.ErrArg || len(l)+len(left) > 0 {
		t.Error("Run", g, showMachine(m), l, left, e)
	}
}

// TestSpoiltMachines: machines in which one thing is changed.
func TestSpoiltMachines(t *testing.T) {
	m := newMaker(3)
	count := map[bool]int{}
	for range 3000 {
		g := m.group(3)
		a := m.any(t, g)
		sample.Spoil(m.IntN, &a)
		is := plainFormed(g, a)
		count[is]++
		if e := auto.Formed(g, a); e == api.OK != is {
			t.Fatal(g, showMachine(a), e)
		}
	}
	if count[true] < 300 || count[false] < 300 {
		t.Error(count)
	}
}
