package sol_test

import (
	"encoding/json"
	"fmt"
	"math/rand/v2"
	"reflect"
	"slices"
	"strings"
	"testing"

	"cabotage/api"
	"cabotage/read"
	"cabotage/sample"
	"cabotage/scope"
	"cabotage/sol"
)

// example is the process P of the chapter.
const example = "def x(a) & y() = out(a) and place p { in stop } in x(1) | x(2) | y() | watch p; x(3)"

func bind(t *testing.T, source string) api.ScopeProg {
	t.Helper()
	u, e := read.Parse(source)
	if e != api.OK {
		t.Fatalf("%s: error %d", source, e)
	}
	p, e := scope.Bind(u)
	if e != api.OK {
		t.Fatalf("%s: error %d", source, e)
	}
	return p
}

// source is a process for a program.
func source(p api.ScopeProg) string {
	u, e := scope.Term(p)
	if e != api.OK {
		return fmt.Sprint(p)
	}
	s, _ := read.Print(u)
	return s
}

// first is the solution of a program at first.
func first(t *testing.T, p api.ScopeProg) api.Sol {
	t.Helper()
	s, _, e := sol.First(p)
	if e != api.OK {
		t.Fatalf("%s: error %d", source(p), e)
	}
	return s
}

// after is the solution after a run from there.
func after(t *testing.T, p api.ScopeProg, picks ...int) api.Sol {
	t.Helper()
	s, _, e := sol.Run(p, first(t, p), picks)
	if e != api.OK {
		t.Fatalf("%s: error %d", source(p), e)
	}
	return s
}

// showVal writes a value: an integer as itself, the free name 0 as f0, and likewise
// the channel c0, and the place p0.
func showVal(v api.SolVal) string {
	if v.Kind < api.SolInt || v.Kind > api.SolPlace {
		return fmt.Sprint(v)
	}
	return fmt.Sprint([]string{"", "f", "c", "p"}[v.Kind-1], v.N)
}

func showVals(l []api.SolVal) string { return "(" + showAll(l, " ", showVal) + ")" }

func showAll[A any](l []A, between string, show func(A) string) string {
	var out []string
	for _, a := range l {
		out = append(out, show(a))
	}
	return strings.Join(out, between)
}

func showSpots(l []api.SolSpot) string {
	return showAll(l, " ", func(p api.SolSpot) string {
		if p.Dead {
			return fmt.Sprint(p.In, "x")
		}
		return fmt.Sprint(p.In)
	})
}

// show writes a solution: the In of each place, with an x if it is dead; the Def, the At
// and the Env of each group; the Group, the Index, the At and the messages of each
// channel; the Node, the At and the Env of each process that waits.
func show(s api.Sol) string {
	groups := showAll(s.Groups, " ", func(g api.SolGroup) string { return fmt.Sprint(g.Def, "@", g.At) + showVals(g.Env) })
	chans := showAll(s.Chans, " ", func(q api.SolQ) string {
		return fmt.Sprint(q.Group, ".", q.Index, "@", q.At) + "[" + showAll(q.Queue, "", func(m api.SolMsg) string { return showVals(m.Vals) }) + "]"
	})
	waits := showAll(s.Waits, " ", func(w api.SolWait) string { return fmt.Sprint(w.Node, "@", w.At) + showVals(w.Env) })
	return strings.Join([]string{showSpots(s.Spots), groups, chans, waits}, " | ")
}

// showEvents writes events: what happened, where, and what else belongs to it.
func showEvents(l []api.SolEvent) string {
	return showAll(l, "; ", func(x api.SolEvent) string {
		at := fmt.Sprint("@", x.At, " ", x.N)
		switch {
		case x.Deed == api.SolTook:
			return "took" + at + "." + fmt.Sprint(x.M) + showVals(x.Vals)
		case x.Deed == api.SolSaid && x.M == 0:
			return "said" + at + showVals(x.Vals)
		case x.Deed == api.SolWent && x.M == 0 && len(x.Vals) == 0:
			return "went" + at
		case x.Deed == api.SolTold && x.M == 0 && len(x.Vals) == 0:
			return "told" + at
		case x.Deed == api.SolDied && x.N == 0 && x.M == 0 && len(x.Vals) == 0:
			return fmt.Sprint("died@", x.At)
		}
		return fmt.Sprint(x)
	})
}

// showStep writes a step: the number of a process that waits, or group, rule and Picks.
func showStep(x api.SolStep) string {
	if x.Wait >= 0 && x.Group == 0 && x.Rule == 0 && len(x.Picks) == 0 {
		return fmt.Sprint(x.Wait)
	}
	if x.Wait == -1 {
		return fmt.Sprint(x.Group, ".", x.Rule, x.Picks)
	}
	return fmt.Sprint(x)
}

// steps are all steps of a solution, as Nth returns them.
func steps(t *testing.T, p api.ScopeProg, s api.Sol) []api.SolStep {
	t.Helper()
	n, e := sol.Count(p, s)
	if e != api.OK {
		t.Fatalf("%s: error %d", source(p), e)
	}
	var l []api.SolStep
	for i := range n {
		x, e := sol.Nth(p, s, i)
		if e != api.OK {
			t.Fatalf("%s: error %d", source(p), e)
		}
		l = append(l, x)
	}
	return l
}

// copied is a value with memory of its own.
func copied[A any](a A) A {
	var b A
	text, _ := json.Marshal(a)
	json.Unmarshal(text, &b)
	return b
}

func name(n int) api.ScopeExp { return api.ScopeExp{Op: api.TermName, N: n} }

func num(n int) api.ScopeExp { return api.ScopeExp{Op: api.TermInt, N: n} }

func exp(op api.TermSign, kids ...api.ScopeExp) api.ScopeExp {
	return api.ScopeExp{Op: op, Kids: kids}
}

func node(op api.TermOp, n int, kids ...int) api.ScopeNode {
	return api.ScopeNode{Op: op, N: n, Kids: kids}
}

// integers are values.
func integers(l ...int) []api.SolVal {
	var vals []api.SolVal
	for _, n := range l {
		vals = append(vals, api.SolVal{Kind: api.SolInt, N: n})
	}
	return vals
}

// maker makes programs and solutions by chance.
type maker struct{ *rand.Rand }

func newMaker(seed uint64) *maker { return &maker{rand.New(rand.NewPCG(seed, 6))} }

func (m *maker) program() api.ScopeProg { return sample.Program(m.IntN, 5) }

// solutions calls f with programs made by chance, and the solutions of a run of each,
// from the one at first on.
func solutions(t *testing.T, seed uint64, programs int, f func(m *maker, p api.ScopeProg, s api.Sol)) {
	t.Helper()
	m := newMaker(seed)
	for range programs {
		p := m.program()
		s, _, e := sol.First(p)
		for turn := 0; e == api.OK && turn < 25; turn++ {
			f(m, p, s)
			n, _ := sol.Count(p, s)
			if n == 0 {
				break
			}
			s, _, e = sol.Run(p, s, []int{m.IntN(n)})
		}
		if e != api.OK && e != api.ErrLong {
			t.Fatal(source(p), e)
		}
	}
}

// within calls f with a value, and with all values within it.
func within(v reflect.Value, f func(reflect.Value)) {
	f(v)
	switch v.Kind() {
	case reflect.Struct:
		for i := range v.NumField() {
			within(v.Field(i), f)
		}
	case reflect.Slice:
		for i := range v.Len() {
			within(v.Index(i), f)
		}
	}
}

// spoil changes one thing in what a points to: a number, whether something is dead, or
// how long a list is.
func (m *maker) spoil(a any) {
	var l []reflect.Value
	within(reflect.ValueOf(a).Elem(), func(v reflect.Value) {
		if v.Kind() != reflect.Struct {
			l = append(l, v)
		}
	})
	v := l[m.IntN(len(l))]
	switch v.Kind() {
	case reflect.Int:
		v.SetInt([]int64{v.Int() + 1, v.Int() - 1, 0, 1, 2, 3, api.TermMost + 1, 1 << 62, -1 << 63}[m.IntN(9)])
	case reflect.Bool:
		v.SetBool(!v.Bool())
	case reflect.String:
		v.SetString([]string{"", "a", "out", "go"}[m.IntN(4)])
	case reflect.Slice:
		m.resize(v)
	}
}

// resize swaps two elements of a list, or makes it shorter or longer.
func (m *maker) resize(v reflect.Value) {
	n := v.Len()
	if n > 1 && m.IntN(3) == 0 {
		reflect.Swapper(v.Interface())(m.IntN(n), m.IntN(n))
		return
	}
	if n > 0 && m.IntN(2) == 0 {
		v.Set(v.Slice(0, n-1))
		return
	}
	more := reflect.Zero(v.Type().Elem())
	if n > 0 && m.IntN(2) == 0 {
		more = v.Index(m.IntN(n))
	}
	v.Set(reflect.Append(v.Slice3(0, n, n), more))
}

// formed calls f with solutions that are formed, most of them such that no run has:
// those of runs, with some things changed.
func formed(t *testing.T, seed uint64, programs int, f func(m *maker, p api.ScopeProg, s api.Sol)) {
	t.Helper()
	changed := 0
	solutions(t, seed, programs, func(m *maker, p api.ScopeProg, s api.Sol) {
		f(m, p, s)
		q := newPlain(p)
		for range 6 {
			u := copied(s)
			for range 1 + m.IntN(2) {
				m.spoil(&u)
			}
			if q.isFormed(u) && show(u) != show(s) {
				changed++
				f(m, p, u)
				s = u
			}
		}
	})
	if changed < programs {
		t.Errorf("only %d solutions were changed", changed)
	}
}

// every is a list of one number, so many times.
func every(n, length int) []int { return slices.Repeat([]int{n}, length) }
