package scope_test

import (
	"fmt"
	"math/rand/v2"
	"slices"
	"strings"
	"testing"

	"cabotage/api"
	"cabotage/read"
	"cabotage/sample"
	"cabotage/scope"
	"cabotage/term"
)

// example is the process T of the chapter.
const example = "def x(a) & y() = z(a, b) and place p { in go q; x(1) } in y() | watch p; 0"

// rich has each kind of processes and of definitions, places in places, and a
// definition in a rule.
const rich = "def x(a) & y() = if a < 1 then out(a + ~2, x) else watch p; stop" +
	" and place p { z(b, c) = def v() = y() in v() and place q { in go p; 0 } in z(1, q) }" +
	" and u() = 0 in y() | go o; x(3)"

func parse(t *testing.T, source string) api.Term {
	t.Helper()
	u, e := read.Parse(source)
	if e != api.OK {
		t.Fatalf("%s: error %d", source, e)
	}
	return u
}

func bind(t *testing.T, source string) api.ScopeProg {
	t.Helper()
	p, e := scope.Bind(parse(t, source))
	if e != api.OK {
		t.Fatalf("%s: error %d", source, e)
	}
	return p
}

// printed is the source of a process, or what is wrong with it.
func printed(u api.Term) string {
	s, e := read.Print(u)
	if e != api.OK {
		return fmt.Sprint("error ", e)
	}
	return s
}

func name(n int) api.ScopeExp { return api.ScopeExp{Op: api.TermName, N: n} }

func num(n int) api.ScopeExp { return api.ScopeExp{Op: api.TermInt, N: n} }

func exp(op api.TermSign, kids ...api.ScopeExp) api.ScopeExp {
	return api.ScopeExp{Op: op, Kids: kids}
}

func node(op api.TermOp, n int, kids ...int) api.ScopeNode {
	return api.ScopeNode{Op: op, N: n, Kids: kids}
}

// show writes a program: its Free and Main, a line a node, and a line a
// definition.
func show(p api.ScopeProg) string {
	var out strings.Builder
	fmt.Fprintln(&out, strings.Join(p.Free, " "), "main", p.Main)
	ops := []string{"", "nil", "send", "par", "def", "if", "go", "stop", "watch"}
	for i, n := range p.Nodes {
		op := fmt.Sprint("op", int(n.Op))
		if 0 < n.Op && int(n.Op) < len(ops) {
			op = ops[n.Op]
		}
		fmt.Fprintf(&out, "%d %s %d", i, op, n.N)
		for _, e := range n.Args {
			fmt.Fprint(&out, " ", showExp(e))
		}
		fmt.Fprint(&out, " >")
		for _, k := range n.Kids {
			fmt.Fprint(&out, " ", k)
		}
		fmt.Fprintln(&out)
	}
	for i, d := range p.Defs {
		fmt.Fprint(&out, i, " chans ", d.Chans, " spots ", d.Spots, " rules ", d.Rules, "\n")
	}
	return out.String()
}

func showExp(e api.ScopeExp) string {
	switch {
	case e.Op == api.TermInt && len(e.Kids) == 0:
		return fmt.Sprint("#", e.N)
	case e.Op == api.TermName && len(e.Kids) == 0:
		return fmt.Sprint(e.N)
	}
	var kids []string
	for _, k := range e.Kids {
		kids = append(kids, showExp(k))
	}
	return fmt.Sprintf("%d/%d(%s)", int(e.Op), e.N, strings.Join(kids, " "))
}

// same reports whether two programs are equal; nil and empty lists are.
func same(a, b api.ScopeProg) bool { return show(a) == show(b) }

// maker makes programs by chance.
type maker struct {
	*rand.Rand
	p api.ScopeProg
}

func newMaker(seed uint64) *maker { return &maker{Rand: rand.New(rand.NewPCG(seed, 3))} }

// program makes a formed program, often one that is not in order.
func (m *maker) program() api.ScopeProg {
	for {
		m.p = api.ScopeProg{Free: []string{"d", "o", "out"}[:m.IntN(4)]}
		m.p.Free = slices.Clone(m.p.Free)
		m.p.Main = m.node(2+m.IntN(4), len(m.p.Free))
		if len(m.p.Nodes) <= api.ScopeNodes && len(m.p.Defs) <= api.ScopeDefs {
			break
		}
	}
	if m.IntN(2) == 0 {
		return sample.Renumbered(m.p, m.Perm(len(m.p.Nodes)), m.Perm(len(m.p.Defs)))
	}
	return m.p
}

func (m *maker) node(depth, size int) int {
	at := len(m.p.Nodes)
	m.p.Nodes = append(m.p.Nodes, api.ScopeNode{})
	n := api.ScopeNode{Op: api.TermNil}
	if m.IntN(6) == 0 {
		n.Op = api.TermStop
	}
	if size > 0 && m.IntN(4) > 0 {
		n.Op = api.TermSend
	}
	if depth > 1 {
		n.Op = []api.TermOp{n.Op, n.Op, api.TermPar, api.TermPar, api.TermDef, api.TermDef, api.TermIf, api.TermGo, api.TermWatch}[m.IntN(9)]
	}
	if size == 0 && (n.Op == api.TermGo || n.Op == api.TermWatch) {
		n.Op = api.TermDef
	}
	kid := func(size int) { k := m.node(depth-1, size); n.Kids = append(n.Kids, k) }
	switch n.Op {
	case api.TermSend:
		n.N = m.IntN(size)
		for range m.IntN(api.TermArgs + 1) {
			n.Args = append(n.Args, m.exp(2, size))
		}
	case api.TermPar:
		kid(size)
		kid(size)
	case api.TermDef:
		n.N, size = m.definition(depth, size)
		kid(size)
	case api.TermIf:
		n.Args = []api.ScopeExp{m.exp(2, size)}
		kid(size)
		kid(size)
	case api.TermGo, api.TermWatch:
		n.N = m.IntN(size)
		kid(size)
	}
	m.p.Nodes[at] = n
	return at
}

func (m *maker) exp(depth, size int) api.ScopeExp {
	switch i := m.IntN(5); {
	case i < 2 && size > 0:
		return name(m.IntN(size))
	case i < 4 || depth <= 1:
		return num(m.IntN(2*api.TermMost+1) - api.TermMost)
	}
	return exp(api.TermAdd+api.TermSign(m.IntN(5)), m.exp(depth-1, size), m.exp(depth-1, size))
}

// definition returns a definition's number, and the size of its environment.
func (m *maker) definition(depth, size int) (int, int) {
	at := len(m.p.Defs)
	m.p.Defs = append(m.p.Defs, api.ScopeDef{})
	var d api.ScopeDef
	for i := range m.IntN(5) {
		d.Spots = append(d.Spots, api.ScopeSpot{In: m.IntN(i + 1)})
	}
	for range m.IntN(5) {
		d.Chans = append(d.Chans, api.ScopeChan{At: m.IntN(len(d.Spots) + 1), Many: m.IntN(api.TermArgs + 1)})
	}
	chans := make([]int, len(d.Chans))
	for i := range chans {
		chans[i] = i
	}
	if m.IntN(2) == 0 { // in order, as far as this goes
		slices.SortFunc(d.Chans, func(a, b api.ScopeChan) int { return a.At - b.At })
	} else {
		m.Shuffle(len(chans), func(i, j int) { chans[i], chans[j] = chans[j], chans[i] })
	}
	for len(chans) > 0 {
		r := api.ScopeRule{At: d.Chans[chans[0]].At}
		for len(chans) > 0 && len(r.Joins) < 1+m.IntN(api.TermJoins) && d.Chans[chans[0]].At == r.At {
			r.Joins = append(r.Joins, chans[0])
			chans = chans[1:]
		}
		d.Rules = append(d.Rules, r)
		if m.IntN(3) == 0 { // one more for the same channels
			r.Joins = slices.Clone(r.Joins)
			slices.Reverse(r.Joins)
			d.Rules = append(d.Rules, r)
		}
	}
	size += len(d.Chans) + len(d.Spots)
	for i, r := range d.Rules {
		more := 0
		for _, c := range r.Joins {
			more += d.Chans[c].Many
		}
		d.Rules[i].Node = m.node(depth-1, size+more)
	}
	for i := range d.Spots {
		d.Spots[i].Node = m.node(depth-1, size)
	}
	m.p.Defs[at] = d
	return at, size
}

func (m *maker) spoil(p *api.ScopeProg) { sample.Spoil(m.IntN, p) }

// formed calls f with formed programs made by chance: those that are made so, what
// Bind makes of them, and all of these with something changed that leaves them
// formed.
func formed(t *testing.T, seed uint64, f func(m *maker, p api.ScopeProg)) {
	t.Helper()
	m := newMaker(seed)
	n := 0
	for range 3000 {
		p := m.program()
		if m.IntN(2) == 0 {
			if u, e := scope.Term(p); e == api.OK {
				p, _ = scope.Bind(u)
			}
		}
		if m.IntN(2) == 0 {
			m.spoil(&p)
		}
		if isFormed(p) {
			n++
			f(m, p)
		}
	}
	if n < 1500 {
		t.Errorf("only %d programs", n)
	}
}

// processes calls f with formed processes made by chance, in which names are bound
// again within their scopes, and rules stand behind places.
func processes(t *testing.T, seed uint64, f func(m *maker, u api.Term)) {
	t.Helper()
	m := newMaker(seed)
	n := 0
	for range 6000 {
		u, e := scope.Term(m.program())
		if e != api.OK {
			continue
		}
		names := map[string]string{}
		m.mix(&u, names)
		if term.Check(u) == api.OK {
			n++
			f(m, u)
		}
	}
	if n < 1000 {
		t.Errorf("only %d processes", n)
	}
}

// mix shuffles the definitions of a process, and calls names by others, whatever
// binds them then.
func (m *maker) mix(u *api.Term, names map[string]string) {
	other := func(s *string) {
		if _, is := names[*s]; !is {
			names[*s] = string("abcdefghijklm"[m.IntN(13)])
		}
		if *s != "" {
			*s = names[*s]
		}
	}
	mixer{m, other}.process(u)
}

type mixer struct {
	*maker
	other func(*string)
}

func (m mixer) process(u *api.Term) {
	m.other(&u.Text)
	for i := range u.Args {
		m.exp(&u.Args[i])
	}
	m.clauses(u.Defs)
	for i := range u.Kids {
		m.process(&u.Kids[i])
	}
}

func (m mixer) exp(e *api.TermExp) {
	m.other(&e.Text)
	for i := range e.Kids {
		m.exp(&e.Kids[i])
	}
}

func (m mixer) clauses(l []api.TermClause) {
	m.Shuffle(len(l), func(i, j int) { l[i], l[j] = l[j], l[i] })
	for i := range l {
		m.other(&l[i].Text)
		for j := range l[i].Joins {
			m.other(&l[i].Joins[j].Text)
			for k := range l[i].Joins[j].Names {
				m.other(&l[i].Joins[j].Names[k])
			}
		}
		m.clauses(l[i].Defs)
		m.process(&l[i].Kids[0])
	}
}
