package usage_test

import (
	"maps"
	"slices"
	"testing"

	"cabotage/api"
	"cabotage/sol"
	"cabotage/usage"
)

// P5.5, P5.6

// tally is what happened in a run: how many messages came to each channel, and how
// often each rule of each group reacted.
type tally struct {
	p       api.ScopeProg
	came    map[int]int
	reacted map[[2]int]int
}

// begin tallies the solution at first.
func begin(p api.ScopeProg) (tally, api.Sol, api.Errno) {
	y := tally{p, map[int]int{}, map[[2]int]int{}}
	s, _, e := sol.First(p)
	y.messages(api.Sol{}, s)
	return y, s, e
}

// step tallies a step by a number, from one solution to the next one.
func (y tally) step(s api.Sol, pick int) (api.Sol, api.Errno) {
	u, l, e := sol.Run(y.p, s, []int{pick})
	if e != api.OK || len(l) == 0 || l[0].Deed == api.SolDied { // which sends nothing
		return u, e
	}
	if x := l[0]; x.Deed == api.SolTook {
		y.reacted[[2]int{x.N, x.M}]++
		for c, q := range s.Chans {
			if q.Group == x.N && slices.Contains(y.p.Defs[s.Groups[x.N].Def].Rules[x.M].Joins, q.Index) {
				y.came[c]++ // it has one less without that
			}
		}
	}
	y.messages(s, u)
	return u, e
}

// messages adds the messages that the second one of two solutions has more.
func (y tally) messages(s, u api.Sol) {
	for c, q := range u.Chans {
		y.came[c] += len(q.Queue)
	}
	for c, q := range s.Chans {
		y.came[c] -= len(q.Queue)
	}
}

// most is what a count allows.
func most(k api.UsageKind) int { return []int{0, 1, 1 << 30}[counted(k)] }

// holds asks that a table is right so far. It returns how often something happened
// once which may not happen more often.
func (y tally) holds(t *testing.T, u []api.UsageDef, s api.Sol) int {
	t.Helper()
	once := 0
	for c, q := range s.Chans {
		k := u[s.Groups[q.Group].Def].Chans[q.Index]
		if y.came[c] > most(k) || k == api.UsageOnce && y.came[c] != 1 {
			t.Fatal(source(y.p), show(u), "channel", q.Index, "of the group", q.Group, "got", y.came[c])
		}
		if y.came[c] == most(k) && y.came[c] == 1 {
			once++
		}
	}
	for r, n := range y.reacted {
		k := u[s.Groups[r[0]].Def].Rules[r[1]]
		if n > most(k) {
			t.Fatal(source(y.p), show(u), "rule", r[1], "of the group", r[0], "reacted", n)
		}
		if n == most(k) {
			once++
		}
	}
	return once
}

// accepted are accepted tables of a program, the least one among them.
func (m *maker) accepted(t *testing.T, p api.ScopeProg) [][]api.UsageDef {
	t.Helper()
	l := [][]api.UsageDef{found(t, p)}
	for range 3 {
		u := newPlain(p).grown(m, m.raised(p, l[0]))
		if is, _ := usage.Accepts(p, u); is {
			l = append(l, u)
		}
	}
	return l
}

func TestRuns(t *testing.T) {
	m := newMaker(10)
	turns, once, tables := 0, 0, 0
	for range 2500 {
		p := m.program(5)
		l := m.accepted(t, p)
		tables += len(l)
		y, s, e := begin(p)
		for turn := 0; e == api.OK && turn < 25; turn++ {
			for _, u := range l {
				once += y.holds(t, u, s)
			}
			if n, _ := sol.Count(p, s); n == 0 {
				break
			}
			turns++
			s, e = y.step(s, m.IntN(1000))
		}
	}
	if turns < 8000 || once < 20000 || tables < 5000 {
		t.Error(turns, once, tables)
	}
}

// TestRunsOfExamples goes through all runs of some processes, up to a length, and asks
// that all happens that their tables say may happen just once.
func TestRunsOfExamples(t *testing.T) {
	for _, c := range []struct {
		source string
		once   []string // channels and rules of which some run has what may be once: definition, c or r, number
	}{
		{example, []string{"0c1", "0c2", "0r1", "1c0", "1r0"}},
		{"def x() = 0 in go p; x()", nil},
		{"def x() = 0 and place p { in stop } in watch p; x()", []string{"0c0", "0r0"}},
		{"def x() = 0 and place p { in x() | stop } in watch p; stop", []string{"0c0", "0r0"}},
		{"def w() = def x() = 0 in x() in w() | w()", []string{"1c0", "1r0"}},
		{"def k(a) = a() in def r() = 0 in k(r)", []string{"0c0", "0r0", "1c0", "1r0"}},
		{"def u(a) = a() | a() in def y(b, c) = b(c) in def r() = 0 in y(u, r)", []string{"0c0", "0r0", "1c0", "1r0"}}, // r gets two through b
		{"def k(a, b) = if a then b() else 0 and l() & m() = k(1, m) in l() | m() | k(0, l)", []string{"0c2", "0r1"}},
		{"def x() & y() = z() and x() = y() and z() = out() in x() | y()", []string{"0c0", "0r0", "0r1", "0c2", "0r2"}},
	} {
		p := bind(t, c.source)
		u := found(t, p)
		seen := map[string]bool{}
		var visit func(y tally, s api.Sol, depth int)
		visit = func(y tally, s api.Sol, depth int) {
			y.holds(t, u, s)
			y.once(s, seen)
			n, _ := sol.Count(p, s)
			for i := range n * min(depth, 1) {
				z := tally{p, maps.Clone(y.came), maps.Clone(y.reacted)}
				v, e := z.step(s, i)
				if e == api.OK {
					visit(z, v, depth-1)
				}
			}
		}
		y, s, _ := begin(p)
		visit(y, s, 6)
		for _, what := range c.once {
			if !seen[what] {
				t.Error(c.source, what, seen)
			}
		}
	}
}

// once notes the channels and rules of definitions of which something happened once.
func (y tally) once(s api.Sol, seen map[string]bool) {
	for c, q := range s.Chans {
		if y.came[c] == 1 {
			seen[part(s, q.Group, "c", q.Index)] = true
		}
	}
	for r, n := range y.reacted {
		if n == 1 {
			seen[part(s, r[0], "r", r[1])] = true
		}
	}
}

func part(s api.Sol, group int, what string, n int) string {
	return string(rune('0'+s.Groups[group].Def)) + what + string(rune('0'+n))
}
