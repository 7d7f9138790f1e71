package auto_test

import (
	"testing"

	"cabotage/api"
	"cabotage/auto"
)

// P8.1 (Check, Ready, Rests)

func TestCheck(t *testing.T) {
	for _, g := range bad() {
		l, e := auto.Ready(g, 0)
		r, f := auto.Rests(g)
		m, h := auto.Machine(g)
		if auto.Check(g) != api.ErrArg || e != api.ErrArg || f != api.ErrArg || h != api.ErrArg || len(l)+len(r)+len(m.States) > 0 {
			t.Error(g, auto.Check(g), l, e, r, f, m, h)
		}
	}
	for _, g := range []api.AutoGroup{example(), group(1), group(1, 1), group(6), group(6, 63, 63, 1, 32, 5, 5, 5, 5, 5, 5), group(2, 3, 2, 1)} {
		if e := auto.Check(g); e != api.OK {
			t.Error(g, e)
		}
	}
	for chans := -2; chans < 9; chans++ {
		for rule := -2; rule < 140; rule++ {
			g := group(chans, 1, rule)
			if is := auto.Check(g) == api.OK; is != plainCheck(g) {
				t.Error(g, is)
			}
		}
	}
}

func TestReady(t *testing.T) {
	for _, c := range []struct {
		g    api.AutoGroup
		set  int
		want string
		e    api.Errno
	}{
		{example(), 3, "0", api.OK}, {example(), 7, "0 1", api.OK}, {example(), 5, "", api.OK}, {example(), 0, "", api.OK}, {example(), 8, "", api.ErrArg}, {example(), -1, "", api.ErrArg},
		{group(2, 3, 1, 3), 3, "0 1 2", api.OK}, {group(2, 3, 1, 3), 1, "1", api.OK}, {group(6), 63, "", api.OK}, {group(6, 63), 64, "", api.ErrArg}, {group(1, 1), 2, "", api.ErrArg},
	} {
		if l, e := auto.Ready(c.g, c.set); e != c.e || numbers(l...) != c.want {
			t.Error(c.g, c.set, l, e)
		}
	}
}

func TestRests(t *testing.T) {
	for _, c := range []struct {
		g    api.AutoGroup
		want string
	}{
		{example(), "0 1 2 4 5"}, {group(1), "0 1"}, {group(1, 1), "0"}, {group(3), "0 1 2 3 4 5 6 7"}, {group(3, 2), "0 1 4 5"}, {group(2, 3), "0 1 2"}, {group(3, 7, 4), "0 1 2 3"},
	} {
		if l, e := auto.Rests(c.g); e != api.OK || numbers(l...) != c.want {
			t.Error(c.g, l, e)
		}
	}
}

func TestGroupsByChance(t *testing.T) {
	m := newMaker(1)
	for range 300 {
		g := m.group(api.AutoChans)
		rests, e := auto.Rests(g)
		if e != api.OK {
			t.Fatal(g, e)
		}
		var want []int
		for set := range 1 << g.Chans {
			l, e := auto.Ready(g, set)
			ready := plainReady(g, set)
			if e != api.OK || numbers(l...) != numbers(ready...) {
				t.Fatal(g, set, l, e)
			}
			if len(ready) == 0 {
				want = append(want, set)
			}
		}
		if numbers(rests...) != numbers(want...) {
			t.Fatal(g, rests, want)
		}
	}
}
