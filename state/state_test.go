package state_test

import (
	"slices"
	"testing"

	"cabotage/api"
	"cabotage/sample"
	"cabotage/show"
	"cabotage/sol"
	"cabotage/state"
)

// Most of what the package does is tested by the layers that have it; here are the
// things that they do not ask.

// solution is that of a source after a run by numbers.
func solution(t *testing.T, source string, picks ...int) state.Solution {
	t.Helper()
	p, e := sample.Bound(source)
	if e != api.OK {
		t.Fatal(source, e)
	}
	s, _, e := sol.First(p)
	if e != api.OK {
		t.Fatal(source, e)
	}
	s, _, e = sol.Run(p, s, picks)
	if e != api.OK {
		t.Fatal(source, e)
	}
	return state.Solution{Sol: s, ScopeProg: p}
}

const example = "def x(a) & y() = def v(b, c) = out(a) and place r { w() = 0 in stop } in v(1, 2) | w() and place p { z() = 0 and place q { in 0 } in 0 } in x(1) | y()"

func TestOwn(t *testing.T) {
	s := solution(t, example, 0)
	// The group 0 has the channels 0 to 2 and the places 1 and 2, the group 1 what is behind.
	for g, want := range []string{"c0 c1 c2 p1 p2", "c3 c4 p3"} {
		d := s.Definition(g)
		var l []api.SolVal
		for i := range d.Chans {
			l = append(l, api.SolVal{Kind: api.SolChan, N: s.Channel(g, i)})
		}
		for i := range d.Spots {
			l = append(l, api.SolVal{Kind: api.SolPlace, N: s.Place(g, i+1)})
		}
		if own := state.Own(d, []int{0, 3}[g], []int{1, 3}[g]); show.All(l, " ", show.Val) != want || !slices.Equal(own, l) || s.Place(g, 0) != 0 {
			t.Error(show.Vals(l), show.Vals(own), s.Place(g, 0))
		}
	}
	var many []int
	for _, q := range s.Chans {
		many = append(many, s.Many(q))
	}
	if !slices.Equal(many, []int{1, 0, 0, 2, 0}) {
		t.Error(many)
	}
}

func TestCopied(t *testing.T) {
	s := solution(t, example, 0)
	before := show.Sol(s.Sol)
	u := state.Copied(s.Sol)
	if show.Sol(u) != before {
		t.Error(before, show.Sol(u))
	}
	clear(u.Groups[0].Env)
	clear(u.Chans[3].Queue[0].Vals)
	clear(u.Chans[3].Queue)
	clear(u.Waits[0].Env)
	clear(u.Spots)
	clear(u.Groups)
	clear(u.Chans)
	clear(u.Waits)
	if show.Sol(s.Sol) != before {
		t.Error(before, show.Sol(s.Sol))
	}
}

// TestPlaces: also places that do not stand as they should.
func TestPlaces(t *testing.T) {
	in := func(l ...int) []api.SolSpot {
		var spots []api.SolSpot
		for _, n := range l {
			spots = append(spots, api.SolSpot{In: n})
		}
		return spots
	}
	for _, c := range []struct {
		spots  []api.SolSpot
		place  int
		within []int
		rooted bool
	}{
		{in(-1, 0, 1, 0), 0, []int{0, 1, 2, 3}, true}, {in(-1, 0, 1, 0), 1, []int{1, 2}, true}, {in(-1, 3, 0, 2), 2, []int{1, 2, 3}, true}, {in(-1), 0, []int{0}, true},
		{in(-1, 2, 1), 0, []int{0}, false}, {in(-1, 2, 1), 1, []int{1, 2}, false}, {in(-1, 1), 0, []int{0}, false}, {in(-1, 5), 0, []int{0}, false}, {in(-1, -1), 0, []int{0}, false},
		{in(0), 0, []int{0}, false}, {in(1, -1), 0, []int{0}, false}, {nil, 0, nil, false}, {in(-1), 1, nil, true}, {in(-1), -1, nil, true},
	} {
		if l := state.Within(c.spots, c.place); !slices.Equal(l, c.within) || state.Rooted(c.spots) != c.rooted {
			t.Error(c, l)
		}
	}
}

// TestAfter: only what is too much gives up quietly.
func TestAfter(t *testing.T) {
	c := state.Change{Solution: solution(t, "def x(a) = 0 in x(1)")}
	s, l, e := c.After(func() { c.Send(0, api.SolVal{Kind: api.SolFree}, nil) })
	if e != api.OK || show.Sol(s) != show.Sol(c.Sol) || show.Events(l) != "said@0 0()" {
		t.Error(show.Sol(s), show.Events(l), e)
	}
	s, l, e = c.After(func() {
		for range 12 {
			c.Send(0, api.SolVal{Kind: api.SolChan}, make([]api.SolVal, 1))
		}
	})
	if e != api.ErrLong || show.Sol(s) != show.Sol(api.Sol{}) || l != nil {
		t.Error(show.Sol(s), show.Events(l), e)
	}
	defer func() {
		if r := recover(); r != "else" {
			t.Error(r)
		}
	}()
	c.After(func() { panic("else") })
}

// TestMake: the places and channels of a group stand where their definition says, and
// what is made of it keeps nothing of the environment.
func TestMake(t *testing.T) {
	c := state.Change{Solution: solution(t, "def place p { x() = 0 and place q { y() = 0 in 0 } in 0 } and z() = 0 in 0")}
	env := []api.SolVal{{Kind: api.SolInt, N: 5}}
	own := c.Make(0, 2, env)
	if show.Vals(own) != "(c3 c4 c5 p3 p4)" {
		t.Error(show.Vals(own))
	}
	clear(env)
	clear(own)
	want := "-1 0 1 2 3 | 0@0(c0 c1 c2 p1 p2) 0@2(5 c3 c4 c5 p3 p4) | 0.0@0[] 0.1@1[] 0.2@2[] 1.0@2[] 1.1@3[] 1.2@4[] | "
	if show.Sol(c.Sol) != want {
		t.Error(show.Sol(c.Sol))
	}
}
