package term_test

import (
	"math/rand/v2"
	"slices"
	"strconv"
	"strings"
	"testing"

	"cabotage/api"
	"cabotage/term"
)

var none = api.Term{Op: api.TermNil}

func name(s string) api.TermExp { return api.TermExp{Op: api.TermName, Text: s} }

func num(n int) api.TermExp { return api.TermExp{Op: api.TermInt, N: n} }

func exp(op api.TermSign, kids ...api.TermExp) api.TermExp { return api.TermExp{Op: op, Kids: kids} }

// send is a message that brings names.
func send(s string, names ...string) api.Term { return bring(s, list(names, name)...) }

func bring(s string, args ...api.TermExp) api.Term {
	return api.Term{Op: api.TermSend, Text: s, Args: args}
}

func par(a, b api.Term) api.Term { return api.Term{Op: api.TermPar, Kids: []api.Term{a, b}} }

func travel(s string, kid api.Term) api.Term {
	return api.Term{Op: api.TermGo, Text: s, Kids: []api.Term{kid}}
}

func watch(s string, kid api.Term) api.Term {
	return api.Term{Op: api.TermWatch, Text: s, Kids: []api.Term{kid}}
}

func when(e api.TermExp, a, b api.Term) api.Term {
	return api.Term{Op: api.TermIf, Args: []api.TermExp{e}, Kids: []api.Term{a, b}}
}

func join(s string, names ...string) api.TermMsg { return api.TermMsg{Text: s, Names: names} }

func rule(body api.Term, joins ...api.TermMsg) api.TermClause {
	return api.TermClause{Form: api.TermRule, Joins: joins, Kids: []api.Term{body}}
}

func place(s string, body api.Term, defs ...api.TermClause) api.TermClause {
	return api.TermClause{Form: api.TermPlace, Text: s, Defs: defs, Kids: []api.Term{body}}
}

func def(body api.Term, defs ...api.TermClause) api.Term {
	return api.Term{Op: api.TermDef, Defs: defs, Kids: []api.Term{body}}
}

// example is the process T of the chapter, with some of its names.
func example(x, y, p, a, b string) api.Term {
	return def(par(send(y), watch(p, none)),
		rule(send("z", a, b), join(x, a), join(y)),
		place(p, travel("q", bring(x, num(1)))))
}

// deep is a process of a depth.
func deep(n int) api.Term {
	t := none
	for range n - 1 {
		t = travel("p", t)
	}
	return t
}

// wide is a process of an odd number of nodes, with as little depth as can be.
func wide(n int) api.Term {
	if n == 1 {
		return send("x")
	}
	left := (n - 1) / 2
	if left%2 == 0 {
		left--
	}
	return par(wide(left), wide(n-1-left))
}

func list[A, B any](l []A, f func(A) B) []B {
	var out []B
	for _, a := range l {
		out = append(out, f(a))
	}
	return out
}

func same(a, b api.Term) bool { return text(a, nil) == text(b, nil) }

// text writes a process. A name that is bound is written as scope says; at nil,
// all names are written as they are.
func text(t api.Term, scope func(string) string) string {
	in := inner(scope, bound(t.Defs))
	args := list(t.Args, func(e api.TermExp) string { return expText(e, scope) })
	defs := list(t.Defs, func(c api.TermClause) string { return clauseText(c, in) })
	kids := list(t.Kids, func(k api.Term) string { return text(k, in) })
	return bracket(strconv.Itoa(int(t.Op)), called(t.Text, scope), bracket(args...), bracket(defs...), bracket(kids...))
}

func expText(e api.TermExp, scope func(string) string) string {
	if e.Op == api.TermName && e.N == 0 && len(e.Kids) == 0 {
		return called(e.Text, scope)
	}
	kids := list(e.Kids, func(k api.TermExp) string { return expText(k, scope) })
	return bracket(strconv.Itoa(int(e.Op)), strconv.Itoa(e.N), e.Text, bracket(kids...))
}

func clauseText(c api.TermClause, scope func(string) string) string {
	var names []string
	joins := list(c.Joins, func(m api.TermMsg) string {
		names = append(names, m.Names...)
		if scope == nil {
			return bracket(m.Text, bracket(m.Names...))
		}
		return bracket(called(m.Text, scope), strconv.Itoa(len(m.Names)))
	})
	in := inner(scope, names)
	defs := list(c.Defs, func(d api.TermClause) string { return clauseText(d, in) })
	kids := list(c.Kids, func(k api.Term) string { return text(k, in) })
	return bracket(strconv.Itoa(int(c.Form)), called(c.Text, scope), bracket(joins...), bracket(defs...), bracket(kids...))
}

func bracket(l ...string) string { return "(" + strings.Join(l, ",") + ")" }

func called(s string, scope func(string) string) string {
	if scope == nil || s == "" {
		return s
	}
	return scope(s)
}

// nameless is a text of a process that bound names do not show in: they are
// written as how many bindings inwards, and the how manieth name there.
func nameless(t api.Term, free func(string) string) string {
	return text(t, func(s string) string { return "0" + free(s) })
}

func inner(scope func(string) string, names []string) func(string) string {
	if scope == nil || len(names) == 0 {
		return scope
	}
	return func(s string) string {
		if i := slices.Index(names, s); i >= 0 {
			return "1" + strconv.Itoa(i)
		}
		return "+" + scope(s)
	}
}

// bound lists what a TermDef with these Defs binds: here those of each place
// behind those of the places before it, which is an order as good as any.
func bound(defs []api.TermClause) []string {
	var names []string
	for _, c := range defs {
		for _, m := range c.Joins {
			names = append(names, m.Text)
		}
		if c.Form == api.TermPlace {
			names = append(append(names, c.Text), bound(c.Defs)...)
		}
	}
	return names
}

// maker makes processes by chance, most of them formed.
type maker struct {
	*rand.Rand
	names []string
}

func newMaker(seed uint64) *maker {
	return &maker{rand.New(rand.NewPCG(seed, 1)), strings.Fields("a b c d x y z p ab")}
}

func (m *maker) name() string { return m.names[m.IntN(len(m.names))] }

// some returns names that differ.
func (m *maker) some(n int) []string {
	var l []string
	for _, i := range m.Perm(len(m.names))[:n] {
		l = append(l, m.names[i])
	}
	return l
}

func (m *maker) exp(depth int) api.TermExp {
	switch n := m.IntN(6); {
	case n == 0:
		return num(m.IntN(2*api.TermMost+1) - api.TermMost)
	case n < 4 || depth <= 1:
		return name(m.name())
	}
	return exp(api.TermAdd+api.TermSign(m.IntN(5)), m.exp(depth-1), m.exp(depth-1))
}

func (m *maker) term(depth int) api.Term {
	if depth <= 1 {
		return []api.Term{none, {Op: api.TermStop}, send(m.name())}[m.IntN(3)]
	}
	switch m.IntN(7) {
	case 0:
		return bring(m.name(), list(make([]int, m.IntN(4)), func(int) api.TermExp { return m.exp(2) })...)
	case 1:
		return travel(m.name(), m.term(depth-1))
	case 2:
		return watch(m.name(), m.term(depth-1))
	case 3:
		return when(m.exp(2), m.term(depth-1), m.term(depth-1))
	case 4:
		return par(m.term(depth-1), m.term(depth-1))
	}
	names := m.some(4)
	return def(m.term(depth-1), m.clauses(depth-1, &names)...)
}

// clauses uses up the names: what they define differs.
func (m *maker) clauses(depth int, names *[]string) []api.TermClause {
	var l []api.TermClause
	for range 1 + m.IntN(2) {
		if len(*names) == 0 || len(l) == api.TermDefs {
			break
		}
		s := (*names)[0]
		*names = (*names)[1:]
		if m.IntN(3) == 0 {
			c := place(s, m.term(depth-1))
			if m.IntN(2) == 0 {
				c.Defs = m.clauses(depth-1, names)
			}
			l = append(l, c)
			continue
		}
		values := m.some(3)
		l = append(l, rule(m.term(depth-1), join(s, values[0])))
		if m.IntN(2) == 0 && len(*names) > 0 {
			l = append(l, rule(m.term(depth-1), join((*names)[0], values[1], values[2]), join(s, values[0])))
			*names = (*names)[1:]
		}
	}
	return l
}

// formed calls f with processes that are formed, made by chance.
func formed(t *testing.T, seed uint64, f func(m *maker, u api.Term)) {
	t.Helper()
	m := newMaker(seed)
	n := 0
	for range 4000 {
		if u := m.term(2 + m.IntN(5)); term.Check(u) == api.OK {
			n++
			f(m, u)
		}
	}
	if n < 1000 {
		t.Errorf("only %d processes", n)
	}
}

// scribble writes over all memory of a process.
func scribble(t api.Term) {
	for i := range t.Args {
		scribbleExp(t.Args[i])
		t.Args[i] = num(77)
	}
	scribbleDefs(t.Defs)
	for i := range t.Kids {
		scribble(t.Kids[i])
		t.Kids[i] = send("scribble")
	}
}

func scribbleExp(e api.TermExp) {
	for i := range e.Kids {
		scribbleExp(e.Kids[i])
		e.Kids[i] = num(77)
	}
}

func scribbleDefs(l []api.TermClause) {
	for i := range l {
		for _, m := range l[i].Joins {
			for j := range m.Names {
				m.Names[j] = "scribble"
			}
		}
		clear(l[i].Joins)
		scribbleDefs(l[i].Defs)
		for j := range l[i].Kids {
			scribble(l[i].Kids[j])
			l[i].Kids[j] = send("scribble")
		}
		l[i] = api.TermClause{}
	}
}
