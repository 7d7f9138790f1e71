package auto_test

import (
	"fmt"
	"strings"
	"testing"

	"cabotage/api"
	"cabotage/auto"
)

// P8.4 (Least)

func TestLeast(t *testing.T) {
	for _, c := range []struct {
		g       api.AutoGroup
		m, want string
		classes string
	}{
		{example(), five, five, "0 1 2 3 4"}, {group(1), "-1:1 | -1:1", "-1:0", "0 0"},
		// a channel of no rule: the sets 0 and 2 are alike
		{group(2, 1), "0:0, -1:1 | 0:1, -1:1", "0:0, -1:0", "0 0"},
		// the state 1 is met by no word, and alike to none; 2 is met by none, and alike to 0
		{group(1, 1, 1), "0:0 | 1:2 | 0:2", "0:0", "0 -1 0"},
		// two states, each there twice
		{group(2, 3, 2), "-1:2, -1:3 | 0:0 2, 1:1 | -1:0, -1:1 | 0:2 2, 1:3", "-1:0, -1:1 | 0:0 0, 1:1", "0 1 0 1"},
		// the state 2 is met before the state 1
		{group(2, 2), "-1:0, -1:2 | -1:1, -1:1 | -1:1, 0:2", "-1:0, -1:1 | -1:2, 0:1 | -1:2, -1:2", "0 2 1"},
		{group(2, 2), "-1:1, -1:2 | -1:1, 0:1 | -1:2, 0:1", "-1:1, -1:1 | -1:1, 0:1", "0 1 1"},
		// they differ where the other keeps something alone
		{group(2, 3), "0:1 2, -1:0 | -1:1, -1:1 | -1:1, 0:0 1", "0:1 2, -1:0 | -1:1, -1:1 | -1:1, 0:0 1", "0 1 2"},
		{group(2, 3), "0:1 2, -1:0 | -1:1, -1:1 | -1:1, -1:2", "0:1 1, -1:0 | -1:1, -1:1", "0 1 1"},
	} {
		m, l, e := auto.Least(c.g, automaton(t, c.m))
		if e != api.OK || showMachine(m) != c.want || numbers(l...) != c.classes {
			t.Error(c.g, c.m, showMachine(m), l, e)
		}
	}
	// a row of 64 states whose last one alone reacts: no two are alike
	row := rowOf(t, 64)
	if m, l, e := auto.Least(group(2, 2), row); e != api.OK || showMachine(m) != showMachine(row) || len(l) != 64 || l[63] != 63 {
		t.Error(showMachine(m), l, e)
	}
}

// rowOf is a machine of states, each of which leads to the next one; the last one alone
// reacts when a message comes on the channel 1.
func rowOf(t *testing.T, n int) api.AutoMachine {
	t.Helper()
	var out []string
	for i := range n - 1 {
		out = append(out, fmt.Sprintf("-1:%d, -1:%d", i+1, i+1))
	}
	return automaton(t, strings.Join(append(out, fmt.Sprintf("-1:%d, 0:%d", n-1, n-1)), " | "))
}

func TestLeastByChance(t *testing.T) {
	m := newMaker(5)
	fewer, gone := 0, 0
	for range 400 {
		g := m.group(3)
		a := m.any(t, g)
		b, l, e := auto.Least(g, a)
		want, classes := plainLeast(g, a)
		if e != api.OK || showMachine(b) != showMachine(want) || numbers(l...) != numbers(classes...) || auto.Formed(g, b) != api.OK {
			t.Fatal(g, showMachine(a), showMachine(b), l, showMachine(want), classes, e)
		}
		if len(b.States) < len(a.States) {
			fewer++
		}
		met := plainMet(g, a)
		for i, n := range l {
			if n < 0 {
				gone++
			}
			if n < 0 && met[i] {
				t.Fatal(g, showMachine(a), l)
			}
		}
	}
	if fewer < 100 || gone < 100 {
		t.Error(fewer, gone)
	}
}

// TestLeastIsLeast: no two states of it are alike, its state 0 is alike to that of the
// machine, and a machine that is alike, with copies of states, has the same least one.
func TestLeastIsLeast(t *testing.T) {
	m := newMaker(6)
	for range 150 {
		g := m.group(3)
		a := m.any(t, g)
		b, l, _ := auto.Least(g, a)
		for x, alike := range plainAlike(g, b) {
			for y, is := range alike {
				if is != (x == y) {
					t.Fatal(g, showMachine(a), showMachine(b), x, y)
				}
			}
		}
		// both in one machine
		both := copied(a)
		for _, acts := range copied(b).States {
			for _, act := range acts {
				for i := range act.Next {
					act.Next[i] += len(a.States)
				}
			}
			both.States = append(both.States, acts)
		}
		alike := plainAlike(g, both)
		for i, n := range l {
			if n >= 0 && !alike[i][len(a.States)+n] {
				t.Fatal(g, showMachine(a), showMachine(b), i, n)
			}
		}
		if l[0] != 0 {
			t.Fatal(g, showMachine(a), l)
		}
		many, of := m.copies(b, min(api.AutoSize, len(b.States)+m.IntN(6)))
		c, k, e := auto.Least(g, many)
		if of[0] == 0 && (e != api.OK || showMachine(c) != showMachine(b) || numbers(k...) != numbers(of...)) {
			t.Fatal(g, showMachine(b), showMachine(many), showMachine(c), k, of, e)
		}
	}
}
