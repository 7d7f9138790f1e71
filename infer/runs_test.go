package infer_test

import (
	"fmt"
	"slices"
	"testing"

	"cabotage/api"
	"cabotage/scope"
	"cabotage/sol"
)

// P4.6

// watcher looks at what a step does at once, with the values that there are then, and
// notes what goes wrong.
type watcher struct {
	p     api.ScopeProg
	s     api.Sol // behind the step
	made  int     // the groups that there are so far
	wrong []string
}

// watch returns what goes wrong when a node is done, with an environment, in a step
// between two solutions.
func watch(p api.ScopeProg, before, behind api.Sol, node int, env []api.SolVal) []string {
	w := watcher{p: p, s: behind, made: len(before.Groups)}
	w.does(node, env)
	return w.wrong
}

func (w *watcher) does(node int, env []api.SolVal) {
	n := w.p.Nodes[node]
	for _, e := range n.Args {
		w.reckons(e, env)
	}
	switch n.Op {
	case api.TermSend:
		if to := env[n.N]; to.Kind == api.SolChan && w.many(to.N) != len(n.Args) {
			w.wrong = append(w.wrong, "message")
		}
	case api.TermPar:
		w.does(n.Kids[0], env)
		w.does(n.Kids[1], env)
	case api.TermDef:
		env = w.s.Groups[w.made].Env // groups are made in this order
		w.made++
		for _, s := range w.p.Defs[n.N].Spots {
			w.does(s.Node, env)
		}
		w.does(n.Kids[0], env)
	case api.TermIf:
		v := w.value(n.Args[0], env)
		w.ask(v, api.SolInt, "test")
		if v.Kind == api.SolInt && v.N != 0 {
			w.does(n.Kids[0], env)
		} else {
			w.does(n.Kids[1], env)
		}
	case api.TermGo, api.TermWatch:
		w.ask(env[n.N], api.SolPlace, "place")
	}
}

// reckons looks at an expression. A TermSame does not reckon: it compares whatever has
// one type.
func (w *watcher) reckons(e api.ScopeExp, env []api.SolVal) {
	for _, k := range e.Kids {
		w.reckons(k, env)
		if e.Op != api.TermSame {
			w.ask(w.value(k, env), api.SolInt, "operand")
		}
	}
}

// ask asks that a value is of a kind, or a free name.
func (w *watcher) ask(v api.SolVal, kind api.SolKind, what string) {
	if v.Kind != kind && v.Kind != api.SolFree {
		w.wrong = append(w.wrong, what)
	}
}

func (w *watcher) value(e api.ScopeExp, env []api.SolVal) api.SolVal {
	v, _ := sol.Value(e, env)
	return v
}

func (w *watcher) many(channel int) int {
	q := w.s.Chans[channel]
	return w.p.Defs[w.s.Groups[q.Group].Def].Chans[q.Index].Many
}

// started is the node that a step does, and its environment; false if it does none.
func started(p api.ScopeProg, s api.Sol, x api.SolStep, events []api.SolEvent) (int, []api.SolVal, bool) {
	if x.Wait >= 0 {
		w := s.Waits[x.Wait]
		kids := p.Nodes[w.Node].Kids
		if len(kids) == 0 {
			return 0, nil, false
		}
		return kids[0], w.Env, true
	}
	g := s.Groups[x.Group]
	return p.Defs[g.Def].Rules[x.Rule].Node, slices.Concat(g.Env, events[0].Vals), true
}

// runs watches some runs of a process, and returns how many steps they had, and what
// went wrong.
func (m *maker) runs(t *testing.T, u api.Term) (turns int, wrong []string) {
	t.Helper()
	p, e := scope.Bind(u)
	if e != api.OK {
		return 0, nil
	}
	for range 3 {
		s, _, e := sol.First(p)
		if e != api.OK {
			return turns, wrong
		}
		free := make([]api.SolVal, len(p.Free))
		for i := range free {
			free[i] = api.SolVal{Kind: api.SolFree, N: i}
		}
		wrong = append(wrong, watch(p, api.Sol{}, s, p.Main, free)...)
		for range 15 {
			n, _ := sol.Count(p, s)
			if n == 0 {
				break
			}
			x, _ := sol.Nth(p, s, m.IntN(n))
			after, events, e := sol.Do(p, s, x)
			if e != api.OK {
				break
			}
			turns++
			if node, env, does := started(p, s, x, events); does {
				wrong = append(wrong, watch(p, s, after, node, env)...)
			}
			s = after
		}
	}
	return turns, wrong
}

// TestRuns: what types does not go wrong, and often what does not type does.
func TestRuns(t *testing.T) {
	turns, wrong := 0, map[string]int{}
	formed(t, 10, 20000, func(m *maker, u api.Term) {
		n, l := m.runs(t, u)
		if !typed(u) {
			for _, what := range l {
				wrong[what]++
			}
			return
		}
		turns += n
		if len(l) > 0 {
			t.Fatal(printed(u), l)
		}
	})
	if turns < 2000 || wrong["message"] < 50 || wrong["operand"] < 50 || wrong["test"] < 20 || wrong["place"] < 50 {
		t.Error(turns, wrong)
	}
}

// TestRunsOfExamples: of what does not type, what would go wrong; and what types.
func TestRunsOfExamples(t *testing.T) {
	m := newMaker(11)
	for _, c := range []struct {
		source string
		wrong  string // of all runs, each once, sorted
	}{
		{procB, "[]"}, {procC, "[]"}, {procD, "[]"},
		{"def x(a, k) = k(a) in x(1, x)", "[message]"},
		{"def get(k) & cell(a) = k(a) | cell(a) in cell(1) | cell(x) | get(out)", "[]"},
		{"def get(k) & cell(a) = k(a) | cell(a) and add(a) = out(a + 1) in cell(1) | cell(add) | get(add)", "[operand]"},
		{"def add(n) = out(n + 1) in def k(a) = def y(b) = a(b) in y(1) | y(add) in k(add)", "[operand]"},
		{"def x(a) = if a then out() else 0 in x(1) | x(x)", "[test]"},
		{"def x(a) = go a; 0 and place p { in x(p) | x(x) | watch x; 0 } in 0", "[place]"},
		{"def x(a) = out(a == x) in x(1) | x(x)", "[]"}, // does not type, as x would be within itself
	} {
		u := parse(t, c.source)
		var all []string
		for range 20 {
			_, l := m.runs(t, u)
			all = append(all, l...)
		}
		slices.Sort(all)
		if got := fmt.Sprint(slices.Compact(all)); got != c.wrong || typed(u) && got != "[]" {
			t.Error(c.source, got)
		}
	}
}
