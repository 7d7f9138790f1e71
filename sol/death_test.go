package sol_test

import (
	"testing"

	"cabotage/api"
	"cabotage/show"
	"cabotage/sol"
)

// P6.6

// deaths are the places that died in a run, as its events tell.
type deaths map[int]bool

// follow asks that events may come behind what died, in solutions in which what is
// within what stands as it did before the first of them.
func (d deaths) follow(t *testing.T, p api.ScopeProg, s api.Sol, l []api.SolEvent) {
	t.Helper()
	for _, x := range l {
		if d[x.At] || x.Deed == api.SolTold && !d[x.N] || x.Deed == api.SolWent && d[x.N] {
			t.Fatal(source(p), show.Sol(s), show.Events(l), d)
		}
		if x.Deed == api.SolDied {
			within, _ := sol.Within(s, x.At)
			for _, b := range within {
				d[b] = true
			}
		}
	}
}

func TestDeaths(t *testing.T) {
	m := newMaker(9)
	died, told, later := 0, 0, 0
	for range 4000 {
		p := m.program()
		s, l, e := sol.First(p)
		d := deaths{}
		for turn := 0; e == api.OK && turn < 20; turn++ {
			for _, x := range l {
				switch {
				case x.Deed == api.SolDied:
					died++
				case x.Deed == api.SolTold:
					told++
				case len(d) > 0:
					later++
				}
			}
			for i, spot := range s.Spots {
				if spot.Dead != d[i] {
					t.Fatal(source(p), show.Sol(s), d)
				}
			}
			before := s
			s, l, e = sol.Run(p, s, []int{m.IntN(1000)})
			d.follow(t, p, before, l)
		}
	}
	if died < 500 || told < 50 || later < 1000 {
		t.Error(died, told, later)
	}
}

// TestDeathsOfWholes: what is said and told behind deaths of places with others in
// them, and of those that went there.
func TestDeathsOfWholes(t *testing.T) {
	const source = "def place p { x() = out(1) | x() and place q { y() = out(2) | y() in go r; y() } in stop } and place r { z() = out(3) | z() in x() | stop }" +
		" in (watch p; out(4)) | (watch q; out(5)) | (watch r; out(6)) | x() | y() | z()"
	p := bind(t, source)
	all := map[string]bool{}
	var visit func(s api.Sol, d deaths, depth int)
	visit = func(s api.Sol, d deaths, depth int) {
		if depth == 0 {
			return
		}
		for _, x := range steps(t, p, s) {
			u, l, e := sol.Do(p, s, x)
			if e == api.ErrLong {
				continue
			}
			more := deaths{}
			for i := range d {
				more[i] = true
			}
			more.follow(t, p, s, l)
			for _, y := range l {
				all[show.Events([]api.SolEvent{y})] = true
			}
			visit(u, more, depth-1)
		}
	}
	visit(first(t, p), deaths{}, 5)
	for _, what := range []string{"died@1", "died@3", "went@2 3", "told@0 1", "told@0 2", "told@0 3", "said@0 0(4)", "said@0 0(5)", "said@0 0(6)", "said@2 0(2)", "said@3 0(3)"} {
		if !all[what] {
			t.Error(what, "was not seen")
		}
	}
}
