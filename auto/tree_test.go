package auto_test

import (
	"slices"
	"testing"

	"cabotage/api"
	"cabotage/auto"
	"cabotage/sample"
)

// P8.8 (Tree, Ask)

// full is the tree of the example, where no queue is known.
const full = "0 1 4, 1 2 3, = 0, = -1, 1 5 8, 2 6 7, = 1, = -1, = -1"

func TestTree(t *testing.T) {
	for _, c := range []struct {
		g          api.AutoGroup
		known, has int
		first      bool
		want       string
		depth      int
		e          api.Errno
	}{
		{example(), 0, 0, false, full, 3, api.OK}, {example(), 0, 0, true, full, 3, api.OK}, {example(), 2, 2, false, "0 1 2, = 0, 2 3 4, = 1, = -1", 2, api.OK}, {example(), 2, 0, true, "= -1", 0, api.OK},
		// the rule 1 is sure, and the rule 0 not out
		{example(), 6, 6, false, "= 1", 0, api.OK}, {example(), 6, 6, true, "0 1 2, = 0, = 1", 1, api.OK},
		{example(), 7, 5, true, "= -1", 0, api.OK}, {example(), 7, 7, true, "= 0", 0, api.OK}, {example(), 3, 2, true, "2 1 2, = 1, = -1", 1, api.OK}, {example(), 7, 6, false, "= 1", 0, api.OK},
		{group(2), 0, 0, true, "= -1", 0, api.OK}, {group(2), 0, 0, false, "= -1", 0, api.OK}, {group(2, 1, 3), 0, 0, true, "0 1 2, = 0, = -1", 1, api.OK},
		// with the channel 2 at first there would be fewer nodes, and no less depth
		{group(3, 4, 3), 0, 0, false, "0 1 6, 1 2 3, = 1, 2 4 5, = 0, = -1, 2 7 8, = 0, = -1", 3, api.OK},
		// rules that are equal: the first of them
		{group(1, 1, 1), 0, 0, false, "0 1 2, = 0, = -1", 1, api.OK}, {group(1, 1, 1), 1, 1, true, "= 0", 0, api.OK},
		// 1 is in both rules, and its test is the least that is best
		{group(2, 2, 3), 0, 0, true, "1 1 2, = 0, = -1", 1, api.OK}, {group(3, 6, 2), 0, 0, false, "1 1 2, = 1, = -1", 1, api.OK}, {group(3, 6, 2), 0, 0, true, "1 1 4, 2 2 3, = 0, = 1, = -1", 2, api.OK},
		{example(), 1, 2, true, "", 0, api.ErrArg}, {example(), 0, 1, false, "", 0, api.ErrArg}, {example(), 8, 0, true, "", 0, api.ErrArg}, {example(), -1, 0, true, "", 0, api.ErrArg}, {example(), 7, 8, true, "", 0, api.ErrArg}, {example(), 7, -1, true, "", 0, api.ErrArg},
	} {
		if l, d, e := auto.Tree(c.g, c.known, c.has, c.first); e != c.e || d != c.depth || showTree(l) != c.want {
			t.Error(c.g, c.known, c.has, c.first, showTree(l), d, e)
		}
	}
	for _, g := range bad() {
		if l, d, e := auto.Tree(g, 0, 0, true); e != api.ErrArg || len(l)+d > 0 {
			t.Error(g, l, d, e)
		}
	}
	// six channels, all of which have to be tested
	if l, d, e := auto.Tree(group(6, 48, 40, 24, 20, 12, 10, 6, 5, 3), 0, 0, true); e != api.OK || d != 6 || len(l) > api.AutoNodes {
		t.Error(len(l), d, e)
	}
}

func TestAsk(t *testing.T) {
	for _, c := range []struct {
		g     api.AutoGroup
		t     string
		set   int
		rule  int
		tests string
		e     api.Errno
	}{
		{example(), full, 6, 1, "0 1 2", api.OK}, {example(), full, 4, -1, "0 1", api.OK}, {example(), full, 3, 0, "0 1", api.OK}, {example(), full, 7, 0, "0 1", api.OK}, {example(), full, 2, -1, "0 1 2", api.OK},
		// trees that are as defined, and decide nothing
		{example(), "= 1", 0, 1, "", api.OK}, {example(), "0 2 1, 0 2 2, = 0", 0, 0, "0 0", api.OK}, {example(), "0 2 1, 0 2 2, = 0", 1, 0, "0", api.OK}, {example(), "2 1 1, = -1, = 1", 4, -1, "2", api.OK},
		{example(), full, 8, 0, "", api.ErrArg}, {example(), full, -1, 0, "", api.ErrArg}, {example(), "", 0, 0, "", api.ErrArg}, {example(), "= 2", 0, 0, "", api.ErrArg}, {example(), "= -2", 0, 0, "", api.ErrArg}, {group(1), "= 0", 0, 0, "", api.ErrArg},
		{example(), "3 1 1, = 0", 0, 0, "", api.ErrArg}, {example(), "-2 1 1, = 0", 0, 0, "", api.ErrArg}, {example(), "0 0 1, = 0", 0, 0, "", api.ErrArg}, {example(), "0 1 0, = 0", 0, 0, "", api.ErrArg}, {example(), "0 1 2, = 0", 0, 0, "", api.ErrArg}, {example(), "0 2 1, = 0", 0, 0, "", api.ErrArg}, {example(), "= 0, 0 0 0", 0, 0, "", api.ErrArg}, {example(), "0 2 2, 0 -1 2, = 0", 0, 0, "", api.ErrArg},
	} {
		if rule, l, e := auto.Ask(c.g, tree(t, c.t), c.set); e != c.e || rule != c.rule || numbers(l...) != c.tests {
			t.Error(c.g, c.t, c.set, rule, l, e)
		}
	}
	for i, l := range [][]api.AutoNode{
		{{Chan: -1, Yes: 1}, {Chan: -1}}, {{Chan: -1, No: 1}, {Chan: -1}}, {{Chan: 0, Yes: 1, No: 1}, {Chan: -1}}, {{Chan: 0, Yes: 1, No: 1, Rule: -2}, {Chan: -1}}, {{Chan: -2}}, {{Chan: -1}, {Chan: -1, Yes: -1}}, make([]api.AutoNode, 1),
		slices.Repeat([]api.AutoNode{{Chan: -1}}, api.AutoNodes+1),
	} {
		if rule, tests, e := auto.Ask(example(), l, 0); e != api.ErrArg || rule != 0 || len(tests) > 0 {
			t.Error(i, rule, tests, e)
		}
	}
	if rule, tests, e := auto.Ask(example(), slices.Repeat([]api.AutoNode{{Chan: -1, Rule: 1}}, api.AutoNodes), 7); e != api.OK || rule != 1 || len(tests) > 0 {
		t.Error(rule, tests, e)
	}
	// as many tests as can be, one behind the other
	var row []api.AutoNode
	for i := range api.AutoNodes - 1 {
		row = append(row, api.AutoNode{Chan: i % 3, Yes: i + 1, No: i + 1, Rule: -1})
	}
	if rule, tests, e := auto.Ask(example(), append(row, api.AutoNode{Chan: -1}), 5); e != api.OK || rule != 0 || len(tests) != api.AutoNodes-1 || tests[125] != 125%3 {
		t.Error(rule, tests, e)
	}
	for _, g := range bad() {
		if rule, l, e := auto.Ask(g, tree(t, "= -1"), 0); e != api.ErrArg || rule != 0 || len(l) > 0 {
			t.Error(g, rule, l, e)
		}
	}
}

// TestTreesByChance: trees are those of the second reading; they decide their parts, and
// test no channel that is known, and none twice.
func TestTreesByChance(t *testing.T) {
	m := newMaker(12)
	for range 600 {
		g := m.group(4)
		known := m.IntN(1 << g.Chans)
		if m.IntN(2) > 0 {
			known &= m.IntN(1 << g.Chans)
		}
		has, first := known&m.IntN(1<<g.Chans), m.IntN(2) > 0
		l, d, e := auto.Tree(g, known, has, first)
		want, depth := plainTree(g, known, has, first, 0)
		if e != api.OK || showTree(l) != showTree(want) || d != depth || !plainIsTree(g, l) || plainDepth(l, 0) != d {
			t.Fatal(g, known, has, first, showTree(l), d, showTree(want), depth, e)
		}
		decides(t, g, l, known, has, first)
	}
}

// decides asks that a tree decides a part, and tests just what need be.
func decides(t *testing.T, g api.AutoGroup, l []api.AutoNode, known, has int, first bool) {
	t.Helper()
	for _, set := range plainAgree(g, known, has) {
		rule, tests, e := auto.Ask(g, l, set)
		if e != api.OK || !plainRight(g, set, rule, first) {
			t.Fatal(g, known, has, first, showTree(l), set, rule, e)
		}
		slices.Sort(tests)
		if len(slices.Compact(slices.Clone(tests))) < len(tests) || slices.ContainsFunc(tests, func(c int) bool { return plainIn(known, c) }) {
			t.Fatal(g, known, has, first, showTree(l), set, tests)
		}
	}
}

// TestTreesLarge: groups of six channels.
func TestTreesLarge(t *testing.T) {
	m := newMaker(13)
	for range 150 {
		g := m.group(api.AutoChans)
		first := m.IntN(2) > 0
		l, d, e := auto.Tree(g, 0, 0, first)
		if e != api.OK || !plainIsTree(g, l) || plainDepth(l, 0) != d {
			t.Fatal(g, showTree(l), d, e)
		}
		decides(t, g, l, 0, 0, first)
	}
}

// TestSpoiltTrees: trees in which one thing is changed, and what they return.
func TestSpoiltTrees(t *testing.T) {
	m := newMaker(14)
	count := map[bool]int{}
	for range 3000 {
		g := m.group(4)
		l, _, _ := auto.Tree(g, 0, 0, true)
		sample.Spoil(m.IntN, &l)
		is := plainIsTree(g, l)
		count[is]++
		set := m.IntN(1 << g.Chans)
		rule, tests, e := auto.Ask(g, l, set)
		if e == api.OK != is {
			t.Fatal(g, showTree(l), e)
		}
		if is {
			if want, asked := plainAsk(l, 0, set); rule != want || numbers(tests...) != numbers(asked...) {
				t.Fatal(g, showTree(l), set, rule, tests, want, asked)
			}
		}
	}
	if count[true] < 200 || count[false] < 200 {
		t.Error(count)
	}
}
