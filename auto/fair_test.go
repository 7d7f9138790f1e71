package auto_test

import (
	"slices"
	"testing"

	"cabotage/api"
	"cabotage/auto"
)

// P8.7 (Fair)

func TestFair(t *testing.T) {
	for _, c := range []struct {
		g          api.AutoGroup
		come       string
		want, left string
		e          api.Errno
	}{
		{example(), "0 2 1 0 1", "-1 -1 0 -1 1", "1 0 0", api.OK}, {example(), "", "", "0 0 0", api.OK}, {example(), "3", "", "", api.ErrArg}, {example(), "-1", "", "", api.ErrArg},
		{group(1, 1, 1, 1), "0 0 0 0 0", "0 1 2 0 1", "0", api.OK}, {group(1), "0 0", "-1 -1", "2", api.OK},
		// the rules 0 and 2 go on in turns; the rule 1 has not reacted, and comes first when it is ready
		{group(2, 1, 3, 1), "0 0 1 0 0", "0 2 -1 1 0", "0 0", api.OK},
		// one that reacted alone goes behind those that did before, and those that did not
		{group(2, 1, 2, 1), "1 0 0 0", "1 0 2 0", "0 0", api.OK}, {group(2, 2, 3, 3), "1 0 0 1 1", "0 -1 -1 1 2", "0 0", api.OK},
	} {
		if l, left, e := auto.Fair(c.g, read(t, c.come)); e != c.e || numbers(l...) != c.want || numbers(left...) != c.left {
			t.Error(c.g, c.come, l, left, e)
		}
	}
	for n, want := range map[int]api.Errno{api.AutoMost: api.OK, api.AutoMost + 1: api.ErrArg} {
		if l, left, e := auto.Fair(example(), make([]int, n)); e != want || e == api.OK && (len(l) != n || left[0] != n) || e != api.OK && len(l)+len(left) > 0 {
			t.Error(n, l, left, e)
		}
	}
	for _, g := range bad() {
		if l, left, e := auto.Fair(g, nil); e != api.ErrArg || len(l)+len(left) > 0 {
			t.Error(g, l, left, e)
		}
	}
}

// TestFairness: what is returned is what the second reading has; and of the choices at
// which a rule is ready, from any that it made on, it is chosen at one of the first n.
func TestFairness(t *testing.T) {
	m := newMaker(11)
	for range 1000 {
		g := m.group(4)
		come := m.below(g.Chans, api.AutoMost)
		l, left, e := auto.Fair(g, come)
		want, rest := plainFair(g, come)
		if e != api.OK || numbers(l...) != numbers(want...) || numbers(left...) != numbers(rest...) {
			t.Fatal(g, come, l, left, want, rest, e)
		}
		waits := make([]int, len(g.Rules)) // at how many choices each rule was ready since
		plainRun(g, come, func(n int, q plainQueues) int {
			can := plainReady(g, q.set())
			if is := len(can) > 0; is != slices.Contains(can, l[n]) {
				t.Fatal(g, come, l, n, can)
			}
			for _, r := range can {
				if waits[r]++; waits[r] > len(g.Rules) || r != l[n] && waits[r] == len(g.Rules) {
					t.Fatal(g, come, l, n, r)
				}
			}
			if len(can) > 0 {
				waits[l[n]] = 0
			}
			return l[n]
		}, func(int, int, plainQueues) {})
	}
}
