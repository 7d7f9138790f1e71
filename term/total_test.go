package term_test

import (
	"slices"
	"strings"
	"testing"

	"cabotage/api"
	"cabotage/term"
)

// P0.12, and the rules R2 to R4 and R8

// all calls each function with a process and an expression, and reports its
// results as text.
func all(u api.Term, x string, e api.TermExp) []string {
	one := func(v api.Term, e api.Errno) string { return text(v, nil) + "!" + string(rune('0'+e)) }
	n, e1 := term.Nodes(u)
	d, e2 := term.Depth(u)
	free, e3 := term.Free(u)
	c, p, e4 := term.Defines(u)
	is, e5 := term.Alike(u, u)
	l, e6 := term.Parts(u)
	sizes := string(rune('0'+n)) + string(rune('0'+d)) + string(rune('0'+e1)) + string(rune('0'+e2))
	names := strings.Join(slices.Concat(free, []string{"/"}, c, []string{"/"}, p), " ") + string(rune('0'+e3)) + string(rune('0'+e4))
	alike := string(rune('0'+e5)) + string(rune('0'+e6))
	if is {
		alike += "+"
	}
	parts := list(l, func(v api.Term) string { return text(v, nil) })
	return append(parts, sizes, names, alike, string(rune('0'+term.Check(u))), string(rune('0'+term.CheckExp(e))),
		one(term.Put(u, x, e)), one(term.Canon(u)), one(term.Beside([]api.Term{u, u})), one(term.Layout(u)))
}

// loops are values that contain themselves.
func loops() ([]api.Term, []api.TermExp) {
	kids := []api.Term{none, none}
	kids[1] = api.Term{Op: api.TermPar, Kids: kids}
	exps := []api.TermExp{num(1), num(1)}
	exps[0] = api.TermExp{Op: api.TermAdd, Kids: exps}
	defs := []api.TermClause{place("p", none)}
	defs[0].Defs = defs
	body := []api.Term{none}
	body[0] = api.Term{Op: api.TermDef, Defs: []api.TermClause{{Form: api.TermRule, Joins: []api.TermMsg{join("x")}, Kids: body}}, Kids: body}
	return []api.Term{kids[1], bring("x", exps[0]), def(none, defs...), body[0], when(exps[1], kids[1], kids[1])}, exps
}

func TestAnyArguments(t *testing.T) {
	terms, exps := loops()
	m := newMaker(8)
	terms = append(terms, unformed()...)
	exps = append(exps, api.TermExp{}, num(api.TermMost+1), name(""), name("x"), num(1))
	huge := send("x")
	huge.Args = make([]api.TermExp, 1<<20)
	chain := none
	for range 1 << 16 {
		chain = travel("p", chain)
	}
	twice := none // 2^60 nodes that share memory
	for range 60 {
		l := []api.Term{twice, twice}
		twice = api.Term{Op: api.TermPar, Kids: l}
	}
	terms = append(terms, huge, chain, twice, def(none, make([]api.TermClause, 1<<20)...), def(none, rule(none, make([]api.TermMsg, 1<<20)...)), send(strings.Repeat("a", 1<<24)))
	for i, u := range terms {
		e := exps[m.IntN(len(exps))]
		if err := term.Check(u); err != api.ErrArg {
			t.Error(i, err)
		}
		a, err1 := term.Put(u, "x", e)
		b, err2 := term.Canon(u)
		c, err3 := term.Beside([]api.Term{none, u})
		d, err4 := term.Layout(u)
		for _, err := range []api.Errno{err1, err2, err3, err4} {
			if err != api.ErrArg {
				t.Error(i, err)
			}
		}
		for _, v := range []api.Term{a, b, c, d} {
			if !same(v, api.Term{}) {
				t.Error(i, v)
			}
		}
		others(t, u)
	}
}

func others(t *testing.T, u api.Term) {
	t.Helper()
	free, e1 := term.Free(u)
	c, p, e2 := term.Defines(u)
	l, e3 := term.Parts(u)
	is, e4 := term.Alike(u, none)
	too, e5 := term.Alike(none, u)
	if len(free)+len(c)+len(p)+len(l) > 0 || is || too {
		t.Error(free, c, p, l, is, too)
	}
	for _, e := range []api.Errno{e1, e2, e3, e4, e5} {
		if e != api.ErrArg {
			t.Error(e)
		}
	}
}

// TestSpoilt: processes that were formed, with something changed by chance, have
// results, or an error and nothing else, and the same ones twice.
func TestSpoilt(t *testing.T) {
	formed(t, 9, func(m *maker, u api.Term) {
		m.spoil(&u, 1+m.IntN(6))
		x, e := m.name(), m.exp(3)
		if m.IntN(4) == 0 {
			e.N, e.Text = m.IntN(3)-1, []string{"", "if", "a"}[m.IntN(3)]
		}
		a := all(u, x, e)
		if b := all(u, x, e); !slices.Equal(a, b) {
			t.Fatal(text(u, nil), a, b)
		}
	})
}

func (m *maker) spoil(u *api.Term, depth int) {
	if depth > 1 && len(u.Kids) > 0 {
		m.spoil(&u.Kids[m.IntN(len(u.Kids))], depth-1)
		return
	}
	if depth > 1 && len(u.Defs) > 0 {
		if c := &u.Defs[m.IntN(len(u.Defs))]; len(c.Kids) > 0 {
			c.Text = []string{"", "p", "x", "in"}[m.IntN(4)]
			m.spoil(&c.Kids[0], depth-1)
			return
		}
	}
	switch m.IntN(6) {
	case 0:
		u.Op = api.TermOp(m.IntN(11) - 1)
	case 1:
		u.Text = []string{"", "go", "b", "abcdefghi"}[m.IntN(4)]
	case 2:
		u.Args = append(u.Args, m.exp(2))
	case 3:
		u.Defs = append(u.Defs, rule(none, join("x"), join("y", "x", "x")))
	case 4:
		u.Kids = append(u.Kids, none)
	case 5:
		u.Kids = nil
	}
}

// TestMemory: arguments stay as they are, and what is written over a result is
// seen neither in arguments nor in other results.
func TestMemory(t *testing.T) {
	formed(t, 10, func(m *maker, u api.Term) {
		was := text(u, nil)
		x, e := m.name(), m.exp(3)
		wasExp := expText(e, nil)
		before := all(u, x, e)
		a, _ := term.Put(u, x, e)
		b, _ := term.Canon(u)
		c, _ := term.Beside([]api.Term{u, u})
		d, _ := term.Layout(u)
		l, _ := term.Parts(u)
		for _, v := range append(l, a, b, c, d) {
			scribble(v)
		}
		if text(u, nil) != was || expText(e, nil) != wasExp || !slices.Equal(before, all(u, x, e)) {
			t.Fatal(was, text(u, nil))
		}
	})
	sum := exp(api.TermAdd, num(1), num(2))
	v, _ := term.Put(send("x", "b", "b"), "b", sum)
	v.Args[0].Kids[0] = num(3)
	if !same(v, bring("x", exp(api.TermAdd, num(3), num(2)), sum)) {
		t.Error(text(v, nil))
	}
	shared := send("x", "b")
	v, _ = term.Beside([]api.Term{shared, shared})
	v.Kids[0].Args[0] = num(3)
	if !same(v, par(bring("x", num(3)), shared)) {
		t.Error(text(v, nil))
	}
	w, _ := term.Layout(par(shared, shared))
	w.Kids[0].Args[0] = num(3)
	if !same(w, par(bring("x", num(3)), shared)) {
		t.Error(text(w, nil))
	}
}
