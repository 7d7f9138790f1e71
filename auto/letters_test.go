package auto_test

import (
	"slices"
	"testing"

	"cabotage/api"
	"cabotage/auto"
)

// P8.3 (Go)

func TestGo(t *testing.T) {
	m := automaton(t, five)
	for _, c := range []struct {
		state int
		word  string
		want  string
		to    int
		e     api.Errno
	}{
		{0, "0/0 1/1 2/0 1/0", "-1 0 -1 0", 3, api.OK}, {0, "", "", 0, api.OK}, {4, "", "", 4, api.OK}, {1, "1/0", "0", 0, api.OK}, {1, "1/1", "0", 1, api.OK},
		// channels in Keep that are none of the others do not count
		{1, "1/6", "0", 0, api.OK}, {1, "1/7", "0", 1, api.OK}, {0, "0/7", "-1", 1, api.OK}, {2, "2/2 0/5", "1 0", 0, api.OK},
		{5, "", "", 0, api.ErrArg}, {-1, "", "", 0, api.ErrArg}, {0, "3/0", "", 0, api.ErrArg}, {0, "-1/0", "", 0, api.ErrArg}, {0, "0/8", "", 0, api.ErrArg}, {0, "0/0 0/-1", "", 0, api.ErrArg},
	} {
		if l, n, e := auto.Go(example(), m, c.state, word(t, c.word)); e != c.e || numbers(l...) != c.want || n != c.to {
			t.Error(c.state, c.word, l, n, e)
		}
	}
	for n, want := range map[int]api.Errno{api.AutoMost: api.OK, api.AutoMost + 1: api.ErrArg} {
		if l, _, e := auto.Go(example(), m, 0, make([]api.AutoLetter, n)); e != want || e == api.OK && len(l) != n || e != api.OK && len(l) > 0 {
			t.Error(n, l, e)
		}
	}
	// the others of the channel 1 are 0 and 2, those of the channel 2 are 0 and 1
	three := automaton(t, "0:0 1 2 3, 0:0 1 2 3, 0:0 1 2 3 | -1:1, -1:1, -1:1 | -1:2, -1:2, -1:2 | -1:3, -1:3, -1:3")
	for l, to := range map[string]int{"1/0": 0, "1/1": 1, "1/4": 2, "1/5": 3, "2/1": 1, "2/2": 2, "2/3": 3, "2/4": 0, "0/2": 1, "0/4": 2, "0/6": 3, "0/1": 0, "0/7": 3} {
		if rules, n, e := auto.Go(group(3, 7), three, 0, word(t, l)); e != api.OK || numbers(rules...) != "0" || n != to {
			t.Error(l, rules, n, e)
		}
	}
}

func TestGoByChance(t *testing.T) {
	m := newMaker(4)
	for range 1000 {
		g := m.group(4)
		a := m.any(t, g)
		at := m.IntN(len(a.States))
		w := m.word(g, api.AutoMost)
		l, n, e := auto.Go(g, a, at, w)
		var want []int
		to := at
		for _, x := range w {
			var rule int
			rule, to = plainStep(g, a, to, x)
			want = append(want, rule)
		}
		if e != api.OK || !slices.Equal(l, want) || n != to {
			t.Fatal(g, showMachine(a), at, showWord(w), l, n, e)
		}
	}
}
