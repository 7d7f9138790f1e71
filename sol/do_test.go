package sol_test

import (
	"math"
	"slices"
	"testing"

	"cabotage/api"
	"cabotage/show"
	"cabotage/sol"
)

// P6.4

func TestDo(t *testing.T) {
	for _, c := range []struct {
		source string
		picks  []int // a run ahead
		step   api.SolStep
		sol    string // the solution behind it
		events string
	}{
		// A rule takes one message of each of its channels, and does its node with what they bring.
		{example, nil, api.SolStep{Wait: -1, Picks: []int{1, 0}}, "-1 0 | 0@0(f0 c0 c1 p1) | 0.0@0[(1)] 0.1@0[] | 2@1(f0 c0 c1 p1) 9@0(f0 c0 c1 p1)", "took@0 0.0(2); said@0 0(2)"},
		{example, nil, api.SolStep{Wait: -1, Picks: []int{0, 0}}, "-1 0 | 0@0(f0 c0 c1 p1) | 0.0@0[(2)] 0.1@0[] | 2@1(f0 c0 c1 p1) 9@0(f0 c0 c1 p1)", "took@0 0.0(1); said@0 0(1)"},
		{"def x(a, b) & y(c) = 0 and y(c) & x(a, b) = out(a, b, c) in x(1, 2) | x(3, 4) | y(5) | y(6)", nil, api.SolStep{Wait: -1, Rule: 1, Picks: []int{1, 0}}, "-1 | 0@0(f0 c0 c1) | 0.0@0[(3 4)] 0.1@0[(5)] | ", "took@0 0.1(6 1 2); said@0 0(1 2 6)"},
		{"def x(a) = a(x) | x(a) in x(out) | x(1)", nil, api.SolStep{Wait: -1, Picks: []int{0}}, "-1 | 0@0(f0 c0) | 0.0@0[(1)(f0)] | ", "took@0 0.0(f0); said@0 0(c0)"},
		// It does so in its place.
		{"def x() = 0 and place p { y(a) = out(a) | x() | go q; 0 and place q { in 0 } in 0 } in y(1) | y(2)", nil, api.SolStep{Wait: -1, Rule: 1, Picks: []int{0}}, "-1 0 1 | 0@0(f0 c0 c1 p1 p2) | 0.0@0[()] 0.1@1[(2)] | 6@1(f0 c0 c1 p1 p2 1)", "took@1 0.1(1); said@1 0(1)"},
		{"def place p { y() = def z() = 0 and place r { in z() | stop } in z() | watch r; 0 in 0 } in y()", nil, api.SolStep{Wait: -1, Picks: []int{0}}, "-1 0 1 | 0@0(c0 p1) 1@1(c0 p1 c1 p2) | 0.0@1[] 1.0@1[()()] | 5@2(c0 p1 c1 p2) 8@1(c0 p1 c1 p2)", "took@1 0.0()"},
		// Each group is one of its own.
		{"def x(a) = def y() = out(a) in y() in x(1) | x(2)", []int{0, 0}, api.SolStep{Wait: -1, Group: 2, Picks: []int{0}}, "-1 | 0@0(f0 c0) 1@0(f0 c0 1 c1) 1@0(f0 c0 2 c2) | 0.0@0[] 1.0@0[()] 2.0@0[] | ", "took@0 2.0(); said@0 0(2)"},
		// A place goes with all that is within it.
		{
			"def place p { x() = 0 and place q { y() = 0 in 0 } in (go r; x() | out(p)) | stop } and place r { in 0 } in x() | y()", nil, api.SolStep{},
			"-1 3 1 0 | 0@0(f0 c0 c1 p1 p2 p3) | 0.0@1[()()] 0.1@2[()] | 8@1(f0 c0 c1 p1 p2 p3)", "went@1 3; said@1 0(p1)",
		},
		{"def place p { in go q; out() } and place q { in 0 } in 0", []int{0}, api.SolStep{}, "", ""},
		{"def place p { place q { in go r; out() } in 0 } and place r { in 0 } in watch p; 0", nil, api.SolStep{}, "-1 0 3 0 | 0@0(f0 p1 p2 p3) |  | 5@0(f0 p1 p2 p3)", "went@2 3; said@2 0()"},
		{"def place p { place q { in go p; out() } in 0 } in 0", nil, api.SolStep{}, "-1 0 1 | 0@0(f0 p1 p2) |  | ", "went@2 1; said@2 0()"},
		// What dies: all within, but for what is dead already.
		{
			"def place p { x() = 0 and place q { y() = 0 in x() | stop } in stop | go r; 0 } and place r { z() = x() in (go q; 0) | watch p; out() } in x() | y() | z() | stop", nil, api.SolStep{},
			"-1 0x 1x 0 | 0@0(f0 c0 c1 c2 p1 p2 p3) | 0.0@1[] 0.1@2[] 0.2@3[()] | 12@3(f0 c0 c1 c2 p1 p2 p3) 14@3(f0 c0 c1 c2 p1 p2 p3) 22@0(f0 c0 c1 c2 p1 p2 p3)", "died@1",
		},
		{"def x() = 0 and place p { in 0 } in x() | stop | go p; 0", nil, api.SolStep{}, "-1x 0x | 0@0(c0 p1) | 0.0@0[] | ", "died@0"},
		{"def place p { place q { in stop } in stop } in 0", []int{1}, api.SolStep{}, "-1 0x 1x | 0@0(p1 p2) |  | ", "died@1"},
		// Who is told of it goes on, and no message comes to what is dead.
		{"def place p { x() = 0 in stop } and y() = 0 in watch p; x() | y() | out(p)", []int{0}, api.SolStep{}, "-1 0x | 0@0(f0 c0 c1 p1) | 0.0@0[()] 0.1@1[] | ", "told@0 1; said@0 0(p1)"},
		{"def place p { x() = 0 in stop } and y() = x() | x(1) | y(x) | y() in y()", []int{0}, api.SolStep{Wait: -1, Picks: []int{0}}, "-1 0x | 0@0(c0 c1 p1) | 0.0@0[()] 0.1@1[] | ", "took@0 0.0()"},
	} {
		p := bind(t, c.source)
		s := after(t, p, c.picks...)
		u, l, e := sol.Do(p, s, c.step)
		if c.sol == "" && (e != api.ErrNone || show.Sol(u) != show.Sol(api.Sol{}) || len(l) > 0) || c.sol != "" && (e != api.OK || show.Sol(u) != c.sol || show.Events(l) != c.events) {
			t.Errorf("%s:\n%s\n%s %d", c.source, show.Sol(u), show.Events(l), e)
		}
	}
}

func TestDoNoStep(t *testing.T) {
	p, s := richly(t)
	// 0: stop in q; 1: go r in q; 2: go p in the place 0; 3: watch d.
	for i, x := range []api.SolStep{
		{Wait: 2}, {Wait: 4}, {Wait: -2}, {Wait: math.MaxInt}, {Wait: math.MinInt}, {Wait: 0, Group: 1}, {Wait: 0, Rule: 1}, {Wait: 1, Picks: []int{0}}, {Wait: 3, Picks: []int{-1}},
		{Wait: -1}, {Wait: -1, Picks: []int{1}}, {Wait: -1, Picks: []int{-1}}, {Wait: -1, Picks: []int{0, 0}}, {Wait: -1, Picks: []int{math.MaxInt}}, {Wait: -1, Picks: []int{math.MinInt}},
		{Wait: -1, Rule: 1}, {Wait: -1, Rule: 1, Picks: []int{3}}, {Wait: -1, Rule: 2, Picks: []int{0}}, {Wait: -1, Rule: 3, Picks: []int{0}}, {Wait: -1, Rule: -1, Picks: []int{0}}, {Wait: -1, Rule: math.MaxInt, Picks: []int{0}},
		{Wait: -1, Group: -1, Picks: []int{0}}, {Wait: -1, Group: 2, Picks: []int{0}}, {Wait: -1, Group: math.MinInt, Picks: []int{0}}, {Wait: -1, Group: 1, Picks: []int{0}}, {Wait: -1, Group: 1, Picks: []int{0, 0}}, {Wait: -1, Group: 1, Rule: 1, Picks: []int{0}},
		{Wait: -1, Picks: make([]int, 1<<20)},
	} {
		if u, l, e := sol.Do(p, s, x); e != api.ErrNone || show.Sol(u) != show.Sol(api.Sol{}) || len(l) > 0 {
			t.Error(i, show.Sol(u), show.Events(l), e)
		}
	}
	for _, x := range []api.SolStep{{Wait: 0}, {Wait: 1, Picks: []int{}}, {Wait: 3}, {Wait: -1, Picks: []int{0}}, {Wait: -1, Rule: 1, Picks: []int{2}}} {
		if _, l, e := sol.Do(p, s, x); e != api.OK || len(l) == 0 {
			t.Error(show.Step(x), e)
		}
	}
}

// growing are programs of which a run by 0 again and again makes more and more of
// something: how often it can go on so.
var growing = []struct {
	source string
	times  int
}{
	{"def x() = def place p { in 0 } in x() in x()", 23},
	{"def x() = def y() = 0 in x() in x()", 39},
	{"def x() = def a() = 0 and b() = 0 and c() = 0 in x() in x()", 19},
	{"def x() = def a() = 0 and b() = 0 in x() and y() = 0 in x()", 29},
	{"def x() & y() = x() | (x() | y()) in x() | y()", 11},
	{"def x() = (go out; 0) | x() in x()", 40},
	{"def x() = (watch out; 0) | (watch out; 0) | x() in x()", 20},
}

func TestTooMuch(t *testing.T) {
	for _, c := range growing {
		p := bind(t, c.source)
		s := after(t, p, every(0, c.times)...)
		if e := sol.Check(p, s); e != api.OK {
			t.Error(c.source, e)
		}
		x, _ := sol.Nth(p, s, 0)
		if u, l, e := sol.Do(p, s, x); e != api.ErrLong || show.Sol(u) != show.Sol(api.Sol{}) || len(l) > 0 {
			t.Error(c.source, show.Sol(u), show.Events(l), e)
		}
		// What would be there then is not formed.
		if u, _ := newPlain(p).do(s, x); !isTooMuch(u) || sol.Check(p, u) != api.ErrArg {
			t.Error(c.source, show.Sol(u))
		}
		x.Picks = append(x.Picks, 0)
		if u, l, e := sol.Do(p, s, x); e != api.ErrNone || show.Sol(u) != show.Sol(api.Sol{}) || len(l) > 0 {
			t.Error(c.source, show.Sol(u), show.Events(l), e)
		}
	}
	// What no longer waits, and messages that were taken, make room first.
	p := bind(t, "def place p { in 0 } and place q { y(a) = y(a + 1) in go p; go p; 0 } in y(1)")
	s := first(t, p)
	s.Waits, s.Chans[0].Queue = slices.Repeat(s.Waits, 40), slices.Repeat(s.Chans[0].Queue, 12)
	for _, x := range []api.SolStep{{Wait: 5}, {Wait: -1, Picks: []int{3}}} {
		want, _ := newPlain(p).do(s, x)
		if u, _, e := sol.Do(p, s, x); e != api.OK || show.Sol(u) != show.Sol(want) {
			t.Error(show.Step(x), show.Sol(u), e)
		}
	}
}

func TestDoErrors(t *testing.T) {
	for _, c := range badly() {
		p, s := richly(t)
		c.do(&s)
		for _, x := range []api.SolStep{{}, {Wait: 3}, {Wait: -1, Picks: []int{0}}, {Wait: -9}} {
			if u, l, e := sol.Do(p, s, x); e != api.ErrArg || show.Sol(u) != show.Sol(api.Sol{}) || len(l) > 0 {
				t.Error(c.what, show.Step(x), show.Sol(u), show.Events(l), e)
			}
		}
	}
	p, s := richly(t)
	p.Nodes = p.Nodes[1:]
	if u, l, e := sol.Do(p, s, api.SolStep{}); e != api.ErrArg || show.Sol(u) != show.Sol(api.Sol{}) || len(l) > 0 {
		t.Error(show.Sol(u), show.Events(l), e)
	}
}

func TestDoByChance(t *testing.T) {
	deeds := map[api.SolDeed]int{}
	formed(t, 5, 400, func(m *maker, p api.ScopeProg, s api.Sol) {
		q := newPlain(p)
		l := q.steps(s)
		for _, i := range m.Perm(len(l))[:min(len(l), 5)] {
			want, events := q.do(s, l[i])
			u, got, e := sol.Do(p, s, l[i])
			if isTooMuch(want) {
				if e != api.ErrLong || show.Sol(u) != show.Sol(api.Sol{}) || len(got) > 0 {
					t.Fatal(source(p), show.Sol(s), show.Step(l[i]), show.Sol(u), e)
				}
				continue
			}
			if e != api.OK || show.Sol(u) != show.Sol(want) || show.Events(got) != show.Events(events) {
				t.Fatal(source(p), show.Sol(s), show.Step(l[i]), show.Sol(u), show.Sol(want), show.Events(got), show.Events(events), e)
			}
			deeds[got[0].Deed]++
			holds(t, p, s, u)
		}
	})
	for _, d := range []api.SolDeed{api.SolTook, api.SolWent, api.SolDied, api.SolTold} {
		if deeds[d] < 20 {
			t.Error(deeds)
		}
	}
}

// holds asks what P6.4 says besides of a solution and one behind a step of it.
func holds(t *testing.T, p api.ScopeProg, s, u api.Sol) {
	t.Helper()
	if e := sol.Check(p, u); e != api.OK {
		t.Fatal(source(p), show.Sol(u), e)
	}
	for i, spot := range s.Spots {
		if spot.Dead && !u.Spots[i].Dead {
			t.Fatal(source(p), show.Sol(s), show.Sol(u), "alive again:", i)
		}
	}
	for _, q := range u.Chans {
		if u.Spots[q.At].Dead && len(q.Queue) > 0 {
			t.Fatal(source(p), show.Sol(u), "a message in a dead place")
		}
	}
}

// TestNoOtherStep: what is none of the steps is not done.
func TestNoOtherStep(t *testing.T) {
	none := 0
	formed(t, 6, 100, func(m *maker, p api.ScopeProg, s api.Sol) {
		l := steps(t, p, s)
		for range 10 {
			x := api.SolStep{Wait: m.IntN(4) - 2, Group: m.IntN(3) - 1, Rule: m.IntN(3) - 1}
			if len(l) > 0 && m.IntN(2) == 0 {
				x = copied(l[m.IntN(len(l))])
				m.spoil(&x)
			}
			is := slices.ContainsFunc(l, func(y api.SolStep) bool { return show.Step(x) == show.Step(y) })
			if _, _, e := sol.Do(p, s, x); (e == api.ErrNone) == is || e == api.ErrArg {
				t.Fatal(source(p), show.Sol(s), show.Step(x), e)
			}
			if !is {
				none++
			}
		}
	})
	if none < 3000 {
		t.Error("only", none)
	}
}
