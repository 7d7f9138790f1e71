package auto_test

import (
	"slices"
	"testing"

	"cabotage/api"
	"cabotage/auto"
)

// P8.5 (Apart)

func TestApart(t *testing.T) {
	keeps := "-1:0, -1:0, 0:2 2 3 2 | -1:1, -1:1, 0:2 2 2 3 | -1:2, -1:2, -1:2 | -1:2, 0:2 2 2 2, -1:3"
	for _, c := range []struct {
		g    api.AutoGroup
		m    string
		a, b int
		want string
		is   bool
		e    api.Errno
	}{
		{example(), five, 1, 4, "1/0 1/0", true, api.OK}, {example(), five, 4, 1, "1/0 1/0", true, api.OK}, {example(), five, 3, 4, "1/0", true, api.OK}, {example(), five, 0, 2, "0/0", true, api.OK}, {example(), five, 2, 2, "", false, api.OK},
		{example(), five, 5, 0, "", false, api.ErrArg}, {example(), five, 0, 5, "", false, api.ErrArg}, {example(), five, -1, 0, "", false, api.ErrArg}, {example(), five, 0, -1, "", false, api.ErrArg},
		// they differ where the channel 1 keeps something, in either order
		{group(3, 7), keeps, 0, 1, "2/2 1/0", true, api.OK}, {group(3, 7), keeps, 1, 0, "2/2 1/0", true, api.OK}, {group(3, 7), keeps, 3, 3, "", false, api.OK},
		// alike, and not the same; one letter, though a longer word begins with less
		{group(1), "-1:1 | -1:1", 0, 1, "", false, api.OK}, {group(2, 2), "-1:2, -1:0 | -1:3, 0:0 | -1:2, -1:2 | -1:3, 0:3", 0, 1, "1/0", true, api.OK},
		// of two words of two letters the lesser one
		{group(2, 2), "-1:2, -1:2 | -1:3, -1:3 | -1:2, -1:2 | -1:3, 0:3", 0, 1, "0/0 1/0", true, api.OK}, {group(2, 2), "-1:0, -1:2 | -1:0, -1:3 | -1:2, -1:2 | -1:3, 0:3", 0, 1, "1/0 1/0", true, api.OK},
		{group(2, 3), "0:2 2, -1:0 | 0:2 3, -1:1 | -1:2, -1:2 | 0:3 3, -1:3", 0, 1, "0/2 0/0", true, api.OK},
		// other rules
		{group(1, 1, 1), "0:0 | 1:1", 0, 1, "0/0", true, api.OK}, {group(2, 3, 2), "-1:0, 0:0 0 | -1:1, 1:1", 0, 1, "1/0", true, api.OK},
	} {
		if l, is, e := auto.Apart(c.g, automaton(t, c.m), c.a, c.b); e != c.e || is != c.is || showWord(l) != c.want {
			t.Error(c.g, c.m, c.a, c.b, showWord(l), is, e)
		}
	}
	// a word may be longer than those that Go takes
	for _, n := range []int{60, 61, 64} {
		l, is, e := auto.Apart(group(2, 2), rowOf(t, n), 0, 1)
		if want := append(make([]api.AutoLetter, n-2), api.AutoLetter{Chan: 1}); e != api.OK || !is || !slices.Equal(l, want) {
			t.Error(n, showWord(l), is, e)
		}
	}
}

// TestApartByChance: a word tells two states apart just if they are not alike, no word
// with fewer letters does, and none of as many is less.
func TestApartByChance(t *testing.T) {
	m := newMaker(7)
	lengths := map[int]int{}
	for range 200 {
		g := m.group(3)
		a := m.any(t, g)
		alike := plainAlike(g, a)
		for x := range a.States {
			for y := range a.States {
				l, is, e := auto.Apart(g, a, x, y)
				if e != api.OK || is == alike[x][y] || is != plainTells(g, a, x, y, l) || !is && len(l) > 0 {
					t.Fatal(g, showMachine(a), x, y, showWord(l), is, e)
				}
				lengths[len(l)]++
				for n := 1; n <= min(len(l), 5); n++ {
					if w := plainWord(g, a, x, y, n); n < len(l) && w != nil || n == len(l) && !slices.Equal(w, l) {
						t.Fatal(g, showMachine(a), x, y, showWord(l), showWord(w))
					}
				}
			}
		}
	}
	for n := range 4 {
		if lengths[n] < 50 {
			t.Error(lengths)
		}
	}
}

// TestApartLarge: machines of more channels and states.
func TestApartLarge(t *testing.T) {
	m := newMaker(8)
	for range 20 {
		g := m.group(api.AutoChans)
		a := m.machine(g, api.AutoSize)
		b, classes, _ := auto.Least(g, a)
		for range 20 {
			x, y := m.IntN(api.AutoSize), m.IntN(api.AutoSize)
			l, is, e := auto.Apart(g, a, x, y)
			if e != api.OK || is != plainTells(g, a, x, y, l) || is && classes[x] >= 0 && classes[x] == classes[y] || !is && classes[x] != classes[y] {
				t.Fatal(g, showMachine(a), x, y, showWord(l), is, e)
			}
			if w := plainWord(g, a, x, y, 1); w != nil && !slices.Equal(w, l) {
				t.Fatal(g, showMachine(a), x, y, showWord(l), showWord(w))
			}
		}
		if auto.Formed(g, b) != api.OK {
			t.Fatal(g, showMachine(a), showMachine(b))
		}
	}
}
