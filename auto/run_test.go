package auto_test

import (
	"slices"
	"testing"

	"cabotage/api"
	"cabotage/auto"
)

// P8.6 (Run, Picked)

func TestRun(t *testing.T) {
	for _, c := range []struct {
		g          api.AutoGroup
		m          string
		come       string
		want, left string
		e          api.Errno
	}{
		{example(), five, "0 0 1 2 1", "-1 -1 0 -1 0", "0 0 1", api.OK}, {example(), five, "0 2 1", "-1 -1 0", "0 0 1", api.OK}, {example(), five, "", "", "0 0 0", api.OK}, {example(), five, "1 1 2 0 0", "-1 -1 1 0 -1", "1 0 0", api.OK}, {example(), five, "0 2 1 1", "-1 -1 0 1", "0 0 0", api.OK},
		{example(), five, "3", "", "", api.ErrArg}, {example(), five, "0 -1", "", "", api.ErrArg},
		// a rule without a message on 1; a rule that waits until two messages came on 1; one that leads elsewhere if 1 keeps something
		{group(2, 3), "0:0 0, -1:0", "1 0 0", "", "", api.ErrRule}, {group(2, 3), "0:0 0, -1:0", "0 3", "", "", api.ErrArg},
		{group(2, 3), "-1:0, -1:1 | -1:1, -1:2 | 0:2 2, -1:2", "0 1 1 0 0", "-1 -1 -1 0 0", "1 0", api.OK},
		{group(2, 3), "0:1 0, -1:0 | -1:1, -1:1", "1 1 0 0 0", "-1 -1 0 0 -1", "1 0", api.OK}, {group(2, 3), "0:0 1, -1:0 | -1:1, -1:1", "1 1 0 0 0", "-1 -1 0 -1 -1", "2 1", api.OK},
		// the channel on which the message came had some before: it is none of the others
		{group(2, 3), "-1:1, -1:0 | 0:0 1, -1:1", "0 1 0 1 0", "-1 -1 0 -1 -1", "2 1", api.OK},
		{group(1, 1, 1), "1:0", "0 0", "1 1", "0", api.OK}, {group(1), "-1:0", "0 0", "-1 -1", "2", api.OK},
	} {
		if l, left, e := auto.Run(c.g, automaton(t, c.m), read(t, c.come)); e != c.e || numbers(l...) != c.want || numbers(left...) != c.left {
			t.Error(c.g, c.m, c.come, l, left, e)
		}
	}
	m := automaton(t, five)
	for n, want := range map[int]api.Errno{api.AutoMost: api.OK, api.AutoMost + 1: api.ErrArg} {
		if l, left, e := auto.Run(example(), m, make([]int, n)); e != want || e == api.OK && (len(l) != n || left[0] != n) || e != api.OK && len(l)+len(left) > 0 {
			t.Error(n, l, left, e)
		}
	}
}

func TestPicked(t *testing.T) {
	most := slices.Repeat([]int{1}, api.AutoMost)
	for _, c := range []struct {
		g           api.AutoGroup
		come, picks string
		want, left  string
		e           api.Errno
	}{
		{example(), "0 2 1", "0 0 3", "-1 -1 1", "1 0 0", api.OK}, {example(), "0 2 1", "1 1 2", "-1 -1 0", "0 0 1", api.OK}, {example(), "0 2 1", "1 1", "-1 -1 0", "0 0 1", api.OK}, {example(), "0 2 1 1", "0 0 1 1 1 9 9", "-1 -1 1 0", "0 0 0", api.OK}, {example(), "", "7", "", "0 0 0", api.OK},
		{group(1, 1, 1, 1), "0 0 0 0 0", "1 4 9223372036854775807 3", "1 1 1 0 0", "0", api.OK}, {group(2, 2, 1, 3, 1), "0 0 1", "1 0 1", "3 1 0", "0 0", api.OK}, {group(1), "0", "3", "-1", "1", api.OK},
		{example(), "0", "-1", "", "", api.ErrArg}, {example(), "", "0 -1", "", "", api.ErrArg}, {example(), "3", "", "", "", api.ErrArg}, {example(), "-1", "", "", "", api.ErrArg},
		{group(1), numbers(most...), "", "", "", api.ErrArg}, {group(2), numbers(most...), numbers(most...), numbers(slices.Repeat([]int{-1}, api.AutoMost)...), "0 60", api.OK}, {group(2), "", numbers(most...) + " 0", "", "", api.ErrArg}, {group(2), numbers(most...) + " 0", "", "", "", api.ErrArg},
	} {
		if l, left, e := auto.Picked(c.g, read(t, c.come), read(t, c.picks)); e != c.e || numbers(l...) != c.want || numbers(left...) != c.left {
			t.Error(c.g, c.come, c.picks, l, left, e)
		}
	}
	for _, g := range bad() {
		if l, left, e := auto.Picked(g, nil, nil); e != api.ErrArg || len(l)+len(left) > 0 {
			t.Error(g, l, left, e)
		}
	}
}

func TestRunsByChance(t *testing.T) {
	m := newMaker(9)
	errors := 0
	for range 1500 {
		g := m.group(4)
		a := m.any(t, g)
		come := m.below(g.Chans, api.AutoMost)
		if m.IntN(2) > 0 {
			come = m.below(g.Chans, 4)
		}
		l, left, e := auto.Run(g, a, come)
		want, rest, is := plainSays(g, a, come)
		if is && e != api.OK || !is && e != api.ErrRule || numbers(l...) != numbers(want...) || numbers(left...) != numbers(rest...) {
			t.Fatal(g, showMachine(a), come, l, left, want, rest, e)
		}
		if !is {
			errors++
		}
		picks := m.below(12, api.AutoMost)
		l, left, e = auto.Picked(g, come, picks)
		if want, rest := plainPicked(g, come, picks); e != api.OK || numbers(l...) != numbers(want...) || numbers(left...) != numbers(rest...) {
			t.Fatal(g, come, picks, l, left, want, rest, e)
		}
	}
	if errors < 200 || errors > 1300 {
		t.Error(errors)
	}
}

// TestFirstChoice: the machine of a group, and the least one of it, make the first
// choice; at the end no rule is ready.
func TestFirstChoice(t *testing.T) {
	m := newMaker(10)
	for range 500 {
		g := m.group(api.AutoChans)
		a := machineOf(t, g)
		least, _, _ := auto.Least(g, a)
		come := m.below(g.Chans, api.AutoMost)
		want, rest := plainPicked(g, come, nil)
		for _, b := range []api.AutoMachine{a, least} {
			l, left, e := auto.Run(g, b, come)
			if e != api.OK || numbers(l...) != numbers(want...) || numbers(left...) != numbers(rest...) {
				t.Fatal(g, showMachine(b), come, l, left, want, rest, e)
			}
		}
		if can := plainReady(g, plainSet(func(c int) bool { return c < g.Chans && rest[c] > 0 })); len(can) > 0 {
			t.Fatal(g, come, rest, can)
		}
	}
}
