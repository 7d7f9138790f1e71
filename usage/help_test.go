package usage_test

import (
	"fmt"
	"math/rand/v2"
	"slices"
	"strings"
	"testing"

	"cabotage/api"
	"cabotage/read"
	"cabotage/scope"
	"cabotage/usage"
)

// example is the process P of the chapter.
const example = "def x(a) = a(1) | a(2) and y(b) & z(c) = b(c) in y(out) | z(x) | def w() = x(out) in w()"

// exampleTable is its table, as text.
const exampleTable = "*!! *1 (*)(1)(*); ! 1 ()"

func bind(t *testing.T, source string) api.ScopeProg {
	t.Helper()
	u, e := read.Parse(source)
	if e != api.OK {
		t.Fatalf("%s: error %d", source, e)
	}
	p, e := scope.Bind(u)
	if e != api.OK {
		t.Fatalf("%s: error %d", source, e)
	}
	return p
}

// source is a process for a program.
func source(p api.ScopeProg) string {
	u, e := scope.Term(p)
	if e != api.OK {
		return fmt.Sprint(p)
	}
	s, _ := read.Print(u)
	return s
}

// show writes a table: of each definition the kinds of its channels, those of its
// rules, and in brackets those of each channel's values. Never is 0, once !, at most
// once 1, any number of times *; - stands for none at all.
func show(t []api.UsageDef) string {
	var defs []string
	for _, u := range t {
		args := ""
		for _, l := range u.Args {
			args += "(" + letters(l) + ")"
		}
		defs = append(defs, some(letters(u.Chans))+" "+some(letters(u.Rules))+" "+some(args))
	}
	return strings.Join(defs, "; ")
}

func letters(l []api.UsageKind) string {
	s := ""
	for _, k := range l {
		if k < api.UsageNever || k > api.UsageMany {
			s += "?"
			continue
		}
		s += "0!1*"[k-1 : k]
	}
	return s
}

func some(s string) string {
	if s == "" {
		return "-"
	}
	return s
}

// table is the table that is written so.
func table(s string) []api.UsageDef {
	var t []api.UsageDef
	for _, d := range strings.FieldsFunc(s, func(r rune) bool { return r == ';' }) {
		f := strings.Fields(d)
		u := api.UsageDef{Chans: kinds(f[0]), Rules: kinds(f[1])}
		for _, l := range strings.SplitAfter(f[2], ")") {
			if strings.HasSuffix(l, ")") {
				u.Args = append(u.Args, kinds(strings.Trim(l, "()")))
			}
		}
		t = append(t, u)
	}
	return t
}

func kinds(s string) []api.UsageKind {
	var l []api.UsageKind
	for _, r := range s {
		if r != '-' {
			l = append(l, api.UsageKind(1+strings.IndexRune("0!1*", r)))
		}
	}
	return l
}

// found is the table of a program.
func found(t *testing.T, p api.ScopeProg) []api.UsageDef {
	t.Helper()
	u, e := usage.Table(p)
	if e != api.OK {
		t.Fatalf("%s: error %d", source(p), e)
	}
	return u
}

// copied is a table with memory of its own.
func copied(t []api.UsageDef) []api.UsageDef {
	var out []api.UsageDef
	for _, u := range t {
		v := api.UsageDef{Chans: slices.Clone(u.Chans), Rules: slices.Clone(u.Rules)}
		for _, l := range u.Args {
			v.Args = append(v.Args, slices.Clone(l))
		}
		out = append(out, v)
	}
	return out
}

func name(n int) api.ScopeExp { return api.ScopeExp{Op: api.TermName, N: n} }

func num(n int) api.ScopeExp { return api.ScopeExp{Op: api.TermInt, N: n} }

// What the places of an environment are: a number from 0 on is a channel of so many
// values.
const (
	anything = -1
	place    = -2
)

// maker makes programs by chance.
type maker struct {
	*rand.Rand
	p api.ScopeProg
}

func newMaker(seed uint64) *maker { return &maker{Rand: rand.New(rand.NewPCG(seed, 5))} }

// program makes a formed program with definitions of at most so many channels, often
// one that is not in order.
func (m *maker) program(chans int) api.ScopeProg {
	for {
		m.p = api.ScopeProg{Free: []string{"o", "out"}[:m.IntN(3)]}
		m.p.Free = slices.Clone(m.p.Free)
		m.p.Nodes = append(m.p.Nodes, api.ScopeNode{Op: api.TermDef})
		env := make([]int, len(m.p.Free))
		for i := range env {
			env[i] = anything
		}
		m.definition(0, 2+m.IntN(4), chans, env)
		if scope.Check(m.p) == api.OK {
			break
		}
	}
	if m.IntN(2) == 0 {
		m.renumber(m.Perm(len(m.p.Nodes)), m.Perm(len(m.p.Defs)))
	}
	return m.p
}

func (m *maker) node(depth, chans int, env []int) int {
	at := len(m.p.Nodes)
	m.p.Nodes = append(m.p.Nodes, api.ScopeNode{})
	kid := func() { k := m.node(depth-1, chans, env); m.p.Nodes[at].Kids = append(m.p.Nodes[at].Kids, k) }
	n := m.IntN(13)
	if depth <= 1 {
		n %= 6
	}
	switch {
	case n < 5 && len(env) > 0:
		m.p.Nodes[at] = m.send(env)
	case n < 6:
		m.p.Nodes[at] = api.ScopeNode{Op: []api.TermOp{api.TermNil, api.TermStop}[m.IntN(2)]}
	case n < 9:
		m.p.Nodes[at] = api.ScopeNode{Op: api.TermPar}
		kid()
		kid()
	case n < 10:
		m.p.Nodes[at] = api.ScopeNode{Op: api.TermIf, Args: []api.ScopeExp{m.exp(env)}}
		kid()
		kid()
	case n < 11 && len(env) > 0:
		m.p.Nodes[at] = api.ScopeNode{Op: []api.TermOp{api.TermGo, api.TermWatch}[m.IntN(2)], N: m.IntN(len(env))}
		kid()
	default:
		m.definition(at, depth, chans, env)
	}
	return at
}

// pick is a place of an environment, most of the time one of the later ones, and of
// a channel, or of what may be one.
func (m *maker) pick(env []int) int {
	n := len(env) - 1 - min(m.IntN(len(env)), m.IntN(len(env)))
	for m.IntN(8) > 0 && (env[n] == place || m.IntN(3) == 0) {
		n = m.IntN(len(env))
	}
	return n
}

// send is a TermSend, most of the time one that brings as much as its channel takes.
func (m *maker) send(env []int) api.ScopeNode {
	n := api.ScopeNode{Op: api.TermSend, N: m.pick(env)}
	many := env[n.N]
	if many < 0 || m.IntN(12) == 0 {
		many = m.IntN(api.TermArgs + 1)
	}
	for range many {
		n.Args = append(n.Args, m.exp(env))
	}
	return n
}

func (m *maker) exp(env []int) api.ScopeExp {
	if len(env) == 0 || m.IntN(3) == 0 {
		return num(m.IntN(9))
	}
	if m.IntN(8) == 0 {
		return api.ScopeExp{Op: api.TermSame, Kids: []api.ScopeExp{name(m.pick(env)), name(m.pick(env))}}
	}
	return name(m.pick(env))
}

// definition makes the node at a number a TermDef.
func (m *maker) definition(at, depth, chans int, env []int) {
	number := len(m.p.Defs)
	m.p.Nodes[at] = api.ScopeNode{Op: api.TermDef, N: number}
	m.p.Defs = append(m.p.Defs, api.ScopeDef{})
	var d api.ScopeDef
	for i := range max(0, m.IntN(4)-1) {
		d.Spots = append(d.Spots, api.ScopeSpot{In: m.IntN(i + 1)})
	}
	env = slices.Clone(env)
	for range min(chans, 1+m.IntN(3)) {
		c := api.ScopeChan{At: m.IntN(len(d.Spots) + 1), Many: []int{0, 0, 1, 1, 2, 3}[m.IntN(6)]}
		d.Chans = append(d.Chans, c)
		env = append(env, c.Many)
	}
	for range d.Spots {
		env = append(env, place)
	}
	chance := m.Perm(len(d.Chans))
	for len(chance) > 0 {
		chance = chance[m.rule(&d, chance):]
	}
	for i, r := range d.Rules {
		inner := slices.Clone(env)
		for _, c := range r.Joins {
			inner = append(inner, slices.Repeat([]int{anything}, d.Chans[c].Many)...)
		}
		d.Rules[i].Node = m.node(depth-1, chans, inner)
	}
	for i := range d.Spots {
		d.Spots[i].Node = m.node(depth-1, chans, env)
	}
	m.p.Defs[number] = d
	k := m.node(depth-1, chans, env)
	m.p.Nodes[at].Kids = []int{k}
}

// rule adds a rule, or two, for the first ones of some channels, and returns of how
// many.
func (m *maker) rule(d *api.ScopeDef, chans []int) int {
	r := api.ScopeRule{At: d.Chans[chans[0]].At}
	for _, c := range chans {
		if d.Chans[c].At != r.At || len(r.Joins) > m.IntN(api.TermJoins) {
			break
		}
		r.Joins = append(r.Joins, c)
	}
	d.Rules = append(d.Rules, r)
	if m.IntN(4) == 0 {
		r.Joins = slices.Clone(r.Joins)
		slices.Reverse(r.Joins)
		d.Rules = append(d.Rules, r)
	}
	return len(r.Joins)
}

// renumber gives nodes and definitions other numbers.
func (m *maker) renumber(nodes, defs []int) {
	q := api.ScopeProg{Free: m.p.Free, Nodes: make([]api.ScopeNode, len(nodes)), Defs: make([]api.ScopeDef, len(defs)), Main: nodes[m.p.Main]}
	for i, n := range m.p.Nodes {
		for j := range n.Kids {
			n.Kids[j] = nodes[n.Kids[j]]
		}
		if n.Op == api.TermDef {
			n.N = defs[n.N]
		}
		q.Nodes[nodes[i]] = n
	}
	for i, d := range m.p.Defs {
		for j := range d.Rules {
			d.Rules[j].Node = nodes[d.Rules[j].Node]
		}
		for j := range d.Spots {
			d.Spots[j].Node = nodes[d.Spots[j].Node]
		}
		q.Defs[defs[i]] = d
	}
	m.p = q
}

// raised is a table for a program that is made by chance: of the program's own one
// some kinds are changed, most of them to greater ones.
func (m *maker) raised(p api.ScopeProg, t []api.UsageDef) []api.UsageDef {
	t = copied(t)
	l := items(p)
	if len(l) == 0 {
		return t
	}
	for range m.IntN(len(l) + 1) {
		i := l[m.IntN(len(l))]
		now := i.in(t)
		*now = max(*now, api.UsageKind(1+m.IntN(4)))
		if m.IntN(9) == 0 {
			*now = api.UsageKind(1 + m.IntN(4))
		}
		if *now == api.UsageOnce && i.part != channels {
			*now = api.UsageMost
		}
	}
	return t
}
