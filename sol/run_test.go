package sol_test

import (
	"math"
	"slices"
	"testing"

	"cabotage/api"
	"cabotage/show"
	"cabotage/sol"
)

// P6.5

func TestRun(t *testing.T) {
	for _, c := range []struct {
		source string
		picks  []int
		events string
	}{
		{example, nil, ""},
		{example, []int{0, 0}, "died@1; told@0 1"},
		{example, []int{0, 0, 0}, "died@1; told@0 1; took@0 0.0(1); said@0 0(1)"},
		{example, []int{0, 0, 0, 0, 0, 0}, "died@1; told@0 1; took@0 0.0(1); said@0 0(1)"}, // it has ended
		{example, []int{2}, "took@0 0.0(2); said@0 0(2)"},
		// A number counts as its remainder, one below 0 as 0.
		{example, []int{3}, "died@1"}, {example, []int{5}, "took@0 0.0(2); said@0 0(2)"}, {example, []int{-1}, "died@1"}, {example, []int{-2}, "died@1"}, {example, []int{math.MinInt}, "died@1"}, {example, []int{math.MaxInt}, "took@0 0.0(1); said@0 0(1)"},
		{example, []int{1, 1, 1}, "took@0 0.0(1); said@0 0(1); died@1; told@0 1"},
		{"0", []int{0, 1}, ""},
		{"def x(a) = out(a) and place p { y() = go q; x(1) in y() } and place q { in 0 } in 0", []int{0, 0, 0, 0}, "took@1 0.1(); went@1 2; took@0 0.0(1); said@0 0(1)"}, // the example of the whole document
		{"def x(a) = out(a) | x(a + 1) in x(1)", []int{7, 8, 9}, "took@0 0.0(1); said@0 0(1); took@0 0.0(2); said@0 0(2); took@0 0.0(3); said@0 0(3)"},
		{"def place p { x() = out(1) in go q; x() } and place q { in 0 } and place r { in go r; 0 } in go p; 0", []int{0, 0}, "went@1 2; took@1 0.0(); said@1 0(1)"},
	} {
		p := bind(t, c.source)
		s, l, e := sol.Run(p, first(t, p), c.picks)
		if e != api.OK || show.Events(l) != c.events {
			t.Errorf("%s by %v: %s %d", c.source, c.picks, show.Events(l), e)
		}
		if len(c.picks) == 0 && show.Sol(s) != show.Sol(first(t, p)) {
			t.Error(c.source, show.Sol(s))
		}
	}
}

func TestRunLong(t *testing.T) {
	p := bind(t, "def x(a) = x(a + 1) in x(0)")
	s, l, e := sol.Run(p, first(t, p), make([]int, 200))
	if e != api.OK || len(l) != 200 || show.Sol(s) != "-1 | 0@0(c0) | 0.0@0[(200)] | " {
		t.Error(show.Sol(s), len(l), e)
	}
	for _, n := range []int{201, 1 << 20} {
		if s, l, e := sol.Run(p, first(t, p), make([]int, n)); e != api.ErrLong || show.Sol(s) != show.Sol(api.Sol{}) || len(l) > 0 {
			t.Error(n, show.Sol(s), len(l), e)
		}
	}
	// Also if it would end before.
	p = bind(t, "0")
	if s, l, e := sol.Run(p, first(t, p), make([]int, 201)); e != api.ErrLong || show.Sol(s) != show.Sol(api.Sol{}) || len(l) > 0 {
		t.Error(show.Sol(s), len(l), e)
	}
	for _, c := range growing {
		p := bind(t, c.source)
		s := after(t, p, every(0, c.times)...)
		for _, n := range []int{1, 2, 100} {
			if u, l, e := sol.Run(p, s, make([]int, n)); e != api.ErrLong || show.Sol(u) != show.Sol(api.Sol{}) || len(l) > 0 {
				t.Error(c.source, n, show.Sol(u), len(l), e)
			}
			if u, l, e := sol.Run(p, first(t, p), make([]int, n+c.times)); e != api.ErrLong || show.Sol(u) != show.Sol(api.Sol{}) || len(l) > 0 {
				t.Error(c.source, n, show.Sol(u), len(l), e)
			}
		}
	}
}

func TestRunErrors(t *testing.T) {
	for _, c := range badly() {
		p, s := richly(t)
		c.do(&s)
		for _, n := range []int{0, 1, 201} {
			if u, l, e := sol.Run(p, s, make([]int, n)); e != api.ErrArg || show.Sol(u) != show.Sol(api.Sol{}) || len(l) > 0 {
				t.Error(c.what, n, show.Sol(u), show.Events(l), e)
			}
		}
	}
	p, s := richly(t)
	p.Free = []string{"go"}
	if u, l, e := sol.Run(p, s, make([]int, 201)); e != api.ErrArg || show.Sol(u) != show.Sol(api.Sol{}) || len(l) > 0 {
		t.Error(show.Sol(u), show.Events(l), e)
	}
}

// byNumbers is the solution behind a run by numbers, and the events, step by step; or
// true if it is too much.
func byNumbers(q plain, s api.Sol, picks []int) (api.Sol, []api.SolEvent, bool) {
	var all []api.SolEvent
	for _, n := range picks {
		l := q.steps(s)
		if len(l) == 0 {
			break
		}
		if n < 0 {
			n = 0
		}
		u, events := q.do(s, l[n%len(l)])
		if isTooMuch(u) {
			return api.Sol{}, nil, true
		}
		s, all = u, append(all, events...)
	}
	return s, all, false
}

func TestRunByChance(t *testing.T) {
	long, much := 0, 0
	formed(t, 7, 120, func(m *maker, p api.ScopeProg, s api.Sol) {
		picks := make([]int, m.IntN(12))
		for i := range picks {
			picks[i] = m.IntN(40) - 3
		}
		want, events, tooMuch := byNumbers(newPlain(p), s, picks)
		u, l, e := sol.Run(p, s, picks)
		if (e == api.ErrLong) != tooMuch || !tooMuch && e != api.OK || show.Sol(u) != show.Sol(want) || show.Events(l) != show.Events(events) {
			t.Fatal(source(p), show.Sol(s), picks, show.Sol(u), show.Sol(want), show.Events(l), show.Events(events), e)
		}
		// A run by some numbers, and then by others, is the run by all of them.
		k := m.IntN(len(picks) + 1)
		v, l1, e1 := sol.Run(p, s, picks[:k])
		if e1 != api.OK {
			if e1 != e {
				t.Fatal(source(p), show.Sol(s), picks, e, e1)
			}
			much++
			return
		}
		v, l2, e2 := sol.Run(p, v, picks[k:])
		if e2 != e || show.Sol(v) != show.Sol(u) || e == api.OK && show.Events(append(l1, l2...)) != show.Events(l) {
			t.Fatal(source(p), show.Sol(s), picks, k, show.Sol(u), show.Sol(v), e, e2)
		}
		if len(l) > 5 {
			long++
		}
	})
	if long < 500 || much == 0 {
		t.Error(long, much)
	}
}

// places is a solution of places alone, by their Ins.
func places(ins ...int) api.Sol {
	var s api.Sol
	for _, in := range ins {
		s.Spots = append(s.Spots, api.SolSpot{In: in})
	}
	return s
}

func TestWithin(t *testing.T) {
	for i, c := range []struct {
		s     api.Sol
		place int
		want  []int
	}{
		{places(-1), 0, []int{0}},
		{places(-1, 0, 0, 1, 1), 0, []int{0, 1, 2, 3, 4}}, {places(-1, 0, 0, 1, 1), 1, []int{1, 3, 4}}, {places(-1, 0, 0, 1, 1), 2, []int{2}}, {places(-1, 0, 0, 1, 1), 4, []int{4}},
		// Places may be in later ones.
		{places(-1, 3, 0, 2, 3, 1), 2, []int{1, 2, 3, 4, 5}}, {places(-1, 3, 0, 2, 3, 1), 3, []int{1, 3, 4, 5}}, {places(-1, 3, 0, 2, 3, 1), 1, []int{1, 5}}, {places(-1, 2, 3, 4, 0), 4, []int{1, 2, 3, 4}}, {places(-1, 2, 3, 4, 0), 1, []int{1}},
	} {
		if l, e := sol.Within(c.s, c.place); e != api.OK || !slices.Equal(l, c.want) {
			t.Error(i, l, e)
		}
	}
	for i, c := range []struct {
		s     api.Sol
		place int
	}{
		{places(), 0}, {places(-1), 1}, {places(-1), -1}, {places(-1, 0), 2}, {places(-1, 0), math.MaxInt}, {places(-1, 0), math.MinInt},
		{places(0), 0}, {places(-2), 0}, {places(1, -1), 1}, {places(0, 0), 1}, {places(-1, -1), 0}, {places(-1, -1), 1}, {places(-1, 1), 0}, {places(-1, 0, 3, 2), 1}, {places(-1, 0, 3, 4, 2), 0}, {places(-1, 0, 3), 1}, {places(-1, 0, math.MaxInt), 0}, {places(-1, 0, math.MinInt), 0}, {places(1, 0), 0}, {places(-1, 0, 0, 5, 3, 4), 1},
	} {
		if l, e := sol.Within(c.s, c.place); e != api.ErrArg || l != nil {
			t.Error(i, l, e)
		}
	}
}

// TestWithinAlone: nothing but the Ins is looked at.
func TestWithinAlone(t *testing.T) {
	s := places(-1, 0, 1)
	s.Spots[0].Dead = true
	s.Groups = []api.SolGroup{{Def: -1, At: 7}}
	s.Chans = []api.SolQ{{Group: 5, Queue: make([]api.SolMsg, 20)}}
	s.Waits = []api.SolWait{{At: -1, Node: 99}}
	if l, e := sol.Within(s, 1); e != api.OK || !slices.Equal(l, []int{1, 2}) {
		t.Error(l, e)
	}
	// As many as there are, and as deep as they are.
	ins := []int{-1}
	for i := range 1 << 16 {
		ins = append(ins, i)
	}
	if l, e := sol.Within(places(ins...), 5); e != api.OK || len(l) != 1<<16-4 || l[0] != 5 {
		t.Error(len(l), e)
	}
	slices.Reverse(ins[1:])
	for i := range ins[1:] {
		ins[i+1] = (i + 2) % len(ins)
	}
	if l, e := sol.Within(places(ins...), 1<<16); e != api.OK || len(l) != 1<<16 {
		t.Error(len(l), e)
	}
	if l, e := sol.Within(places(append([]int{-1}, make([]int, 1<<20)...)...), 0); e != api.OK || len(l) != 1<<20+1 {
		t.Error(len(l), e)
	}
	if l, e := sol.Within(places(append([]int{-1}, every(1, 1<<20)...)...), 0); e != api.ErrArg || l != nil {
		t.Error(len(l), e)
	}
}

func TestWithinByChance(t *testing.T) {
	m := newMaker(8)
	formed := 0
	for range 20000 {
		s := api.Sol{Spots: make([]api.SolSpot, 1+m.IntN(6))}
		s.Spots[0].In = -1
		for i := range s.Spots[1:] {
			s.Spots[i+1].In = m.IntN(i + 1)
		}
		if m.IntN(2) == 0 { // some of these are in a ring
			s.Spots[m.IntN(len(s.Spots))].In = m.IntN(len(s.Spots)+2) - 1
		}
		is := true
		for i, p := range s.Spots {
			is = is && (i == 0) == (p.In == -1) && isWithin(s, i, 0)
		}
		place := m.IntN(len(s.Spots)+2) - 1
		l, e := sol.Within(s, place)
		if !is || place < 0 || place >= len(s.Spots) {
			if e != api.ErrArg || l != nil {
				t.Fatal(s.Spots, place, l, e)
			}
			continue
		}
		formed++
		if e != api.OK || !slices.Equal(l, allWithin(s, place)) {
			t.Fatal(s.Spots, place, l, e)
		}
	}
	if formed < 5000 || formed > 15000 {
		t.Error(formed)
	}
}
