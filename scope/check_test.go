package scope_test

import (
	"fmt"
	"math"
	"slices"
	"strings"
	"testing"

	"cabotage/api"
	"cabotage/scope"
)

// P3.1

// long is a program of so many nodes below each other.
func long(nodes int) api.ScopeProg {
	p := api.ScopeProg{Free: []string{"a"}}
	for len(p.Nodes) < nodes-1 {
		p.Nodes = append(p.Nodes, node(api.TermGo, 0, len(p.Nodes)+1))
	}
	p.Nodes = append(p.Nodes, node(api.TermNil, 0))
	return p
}

// chain is a program with definitions in each other, each with one rule.
func chain(defs int) api.ScopeProg {
	var p api.ScopeProg
	for i := range defs {
		p.Nodes = append(p.Nodes, node(api.TermDef, i, 2*i+2), node(api.TermNil, 0))
		p.Defs = append(p.Defs, api.ScopeDef{Chans: []api.ScopeChan{{}}, Rules: []api.ScopeRule{{Joins: []int{0}, Node: 2*i + 1}}})
	}
	p.Nodes = append(p.Nodes, node(api.TermNil, 0))
	return p
}

// broad is a program with one definition of so many channels, places and rules.
func broad(chans, spots, rules int) api.ScopeProg {
	p := api.ScopeProg{Nodes: []api.ScopeNode{node(api.TermDef, 0, 1), node(api.TermNil, 0)}}
	d := api.ScopeDef{Chans: make([]api.ScopeChan, chans)}
	for i := range rules {
		l := slices.Compact([]int{3 * i % chans, (3*i + 1) % chans, (3*i + 2) % chans})
		d.Rules = append(d.Rules, api.ScopeRule{Joins: l, Node: len(p.Nodes)})
		p.Nodes = append(p.Nodes, node(api.TermNil, 0))
	}
	for i := range spots {
		d.Spots = append(d.Spots, api.ScopeSpot{In: i, Node: len(p.Nodes)})
		p.Nodes = append(p.Nodes, node(api.TermNil, 0))
	}
	p.Defs = []api.ScopeDef{d}
	return p
}

// deep is an expression of a depth.
func deep(n int) api.ScopeExp {
	e := num(1)
	for range n - 1 {
		e = exp(api.TermSub, num(0), e)
	}
	return e
}

// wide is an expression of an odd number of nodes, with as little depth as can be.
func wide(n int) api.ScopeExp {
	if n == 1 {
		return num(1)
	}
	left := (n - 1) / 2
	if left%2 == 0 {
		left--
	}
	return exp(api.TermMul, wide(left), wide(n-1-left))
}

// saying is a program of one message.
func saying(args ...api.ScopeExp) api.ScopeProg {
	return api.ScopeProg{Free: []string{"a", "b"}, Nodes: []api.ScopeNode{{Op: api.TermSend, N: 1, Args: args}}}
}

func letters(n int) []string {
	var l []string
	for c := range n {
		l = append(l, string(rune('a'+c)))
	}
	return l
}

func TestFormed(t *testing.T) {
	for i, p := range []api.ScopeProg{
		bind(t, example), bind(t, rich), long(60), chain(12), broad(30, 0, 10), broad(1, 28, 30), broad(3, 30, 1), broad(30, 5, 10),
		{Free: letters(12), Nodes: []api.ScopeNode{node(api.TermStop, 0)}},
		{Nodes: []api.ScopeNode{node(api.TermNil, 0)}},
		{Nodes: []api.ScopeNode{node(api.TermNil, 0), node(api.TermDef, 0, 0)}, Defs: []api.ScopeDef{{}}, Main: 1}, // it defines nothing
		saying(), saying(num(api.TermMost), num(-api.TermMost), name(1)), saying(deep(12), wide(59), wide(59)),
		saying(exp(api.TermAdd, name(0), exp(api.TermSub, name(1), exp(api.TermMul, num(1), exp(api.TermLess, num(1), exp(api.TermSame, num(1), num(1))))))),
		{Nodes: []api.ScopeNode{{Op: api.TermNil, Args: []api.ScopeExp{}, Kids: []int{}}}, Free: []string{}, Defs: []api.ScopeDef{}},
	} {
		if e := scope.Check(p); e != api.OK || !isFormed(p) {
			t.Error(i, e, show(p))
		}
	}
}

// change is a change to a program after which it is not formed.
type change struct {
	what string
	do   func(p *api.ScopeProg)
}

func frees(l ...string) change {
	return change{fmt.Sprint("Free ", l), func(p *api.ScopeProg) { p.Free = l }}
}

func nodes(i int, what string, do func(n *api.ScopeNode)) change {
	return change{fmt.Sprint("node ", i, ": ", what), func(p *api.ScopeProg) { do(&p.Nodes[i]) }}
}

func op(i int, op api.TermOp) change {
	return nodes(i, fmt.Sprint("op ", op), func(n *api.ScopeNode) { n.Op = op })
}

func number(i, to int) change {
	return nodes(i, fmt.Sprint("N ", to), func(n *api.ScopeNode) { n.N = to })
}

func kids(i int, l ...int) change {
	return nodes(i, fmt.Sprint("Kids ", l), func(n *api.ScopeNode) { n.Kids = l })
}

func args(i int, l ...api.ScopeExp) change {
	return nodes(i, fmt.Sprint("Args ", l), func(n *api.ScopeNode) { n.Args = l })
}

func defs(i int, what string, do func(d *api.ScopeDef)) change {
	return change{fmt.Sprint("definition ", i, ": ", what), func(p *api.ScopeProg) { do(&p.Defs[i]) }}
}

// unformed are changes to the program of rich, which is spelt out in TestBind.
func unformed() []change {
	sum := api.ScopeExp{Op: api.TermAdd, Kids: []api.ScopeExp{num(1), num(2)}}
	return []change{
		frees("out", "o"), frees("o", "o"), frees("o", ""), frees("in", "out"), frees("O", "o"), frees("o", "outoutout"), frees("o"), frees(),
		{"Main -1", func(p *api.ScopeProg) { p.Main = -1 }}, {"Main 12", func(p *api.ScopeProg) { p.Main = 12 }}, {"Main 16", func(p *api.ScopeProg) { p.Main = 16 }},
		{"Main at the end", func(p *api.ScopeProg) { p.Main = math.MaxInt }}, {"no nodes", func(p *api.ScopeProg) { p.Nodes = nil }}, {"no definitions", func(p *api.ScopeProg) { p.Defs = nil }},
		{"a node too many", func(p *api.ScopeProg) { p.Nodes = append(p.Nodes, node(api.TermNil, 0)) }},
		{"a ring beside", func(p *api.ScopeProg) { p.Nodes = append(p.Nodes, node(api.TermPar, 0, 16, 17), node(api.TermNil, 0)) }},
		{"a longer ring", func(p *api.ScopeProg) {
			p.Nodes = append(p.Nodes, node(api.TermGo, 0, 17), node(api.TermWatch, 0, 16))
		}},
		{"a definition too many", func(p *api.ScopeProg) { p.Defs = append(p.Defs, api.ScopeDef{}) }},
		{"a definition too few", func(p *api.ScopeProg) { p.Defs = p.Defs[:1] }},
		op(4, 0), op(4, -1), op(4, 9), op(4, math.MaxInt), op(13, api.TermNil), op(12, api.TermIf), op(3, api.TermStop), op(1, api.TermPar), op(4, api.TermDef), op(4, api.TermGo),
		number(0, 1), number(6, 0), number(6, -1), number(6, 2), number(1, 1), number(4, 1), number(5, 1), number(12, 1), number(12, -1),
		number(2, -1), number(2, 9), number(3, 9), number(3, -1), number(9, 8), number(10, 8), number(14, 8), number(14, -1), number(7, 11), number(8, 11),
		kids(0), kids(0, 12, 13), kids(0, 0), kids(0, 16), kids(0, -1), kids(1, 2), kids(1, 2, 2), kids(1, 2, 3, 4), kids(2, 5), kids(3), kids(3, 1), kids(3, 5), kids(3, 9),
		kids(4, 5), kids(5, 4), kids(12, 13), kids(12, 14, 13, 15), kids(14), kids(14, 14), kids(14, 13), kids(14, math.MinInt), kids(6, 6), kids(6, 7), kids(10, 0),
		args(0, num(1)), args(1), args(1, num(1), num(1)), args(3, num(1)), args(4, num(1)), args(5, num(1)), args(12, num(1)), args(14, num(1)),
		args(2, num(1), num(1), num(1), num(1)), args(2, api.ScopeExp{}), args(2, exp(-1)), args(2, exp(8)), args(2, exp(8, num(1), num(1))), args(2, num(api.TermMost+1)), args(2, num(-api.TermMost-1)), args(2, num(math.MinInt)),
		args(2, name(-1)), args(2, name(9)), args(2, num(1), num(1), name(9)), args(1, name(9)), args(2, exp(api.TermAdd, num(1), name(9))), args(9, name(8)), args(15, name(8)),
		args(2, api.ScopeExp{Op: api.TermInt, N: 1, Kids: sum.Kids}), args(2, api.ScopeExp{Op: api.TermName, Kids: sum.Kids}), args(2, api.ScopeExp{Op: api.TermAdd, N: 1, Kids: sum.Kids}),
		args(2, exp(api.TermAdd)), args(2, exp(api.TermSub, num(1))), args(2, exp(api.TermMul, num(1), num(1), num(1))), args(2, exp(api.TermLess, num(1), api.ScopeExp{})), args(2, exp(api.TermSame, exp(api.TermInt, num(1)), num(1))),
		args(2, deep(13)), args(2, wide(61)), args(2, num(1), num(1), exp(api.TermAdd, num(1), deep(12))), args(1, deep(13)),
	}
}

func unformedDefs() []change {
	chans := func(what string, do func(d *api.ScopeDef)) change { return defs(0, what, do) }
	joins := func(i int, l ...int) change {
		return defs(0, fmt.Sprint("Joins ", l), func(d *api.ScopeDef) { d.Rules[i].Joins = l })
	}
	return []change{
		chans("At -1", func(d *api.ScopeDef) { d.Chans[3].At = -1 }), chans("At of a rule elsewhere", func(d *api.ScopeDef) { d.Chans[3].At = 2 }), chans("At of another rule", func(d *api.ScopeDef) { d.Chans[1].At = 1 }),
		chans("At without a place", func(d *api.ScopeDef) { d.Chans[3].At, d.Rules[2].At = 3, 3 }), chans("At below", func(d *api.ScopeDef) { d.Chans[3].At, d.Rules[2].At = -1, -1 }),
		chans("Many -1", func(d *api.ScopeDef) { d.Chans[2].Many = -1 }), chans("Many 4", func(d *api.ScopeDef) { d.Chans[2].Many = 4 }), chans("Many too few", func(d *api.ScopeDef) { d.Chans[0].Many = 0 }), chans("Many at the end", func(d *api.ScopeDef) { d.Chans[0].Many = math.MaxInt }),
		chans("a channel too many", func(d *api.ScopeDef) { d.Chans = append(d.Chans, api.ScopeChan{}) }), chans("a channel too few", func(d *api.ScopeDef) { d.Chans = d.Chans[:3] }),
		chans("In itself", func(d *api.ScopeDef) { d.Spots[0].In = 1 }), chans("In behind", func(d *api.ScopeDef) { d.Spots[0].In = 2 }), chans("In itself too", func(d *api.ScopeDef) { d.Spots[1].In = 2 }), chans("In -1", func(d *api.ScopeDef) { d.Spots[1].In = -1 }), chans("In 3", func(d *api.ScopeDef) { d.Spots[1].In = 3 }),
		chans("Node of a Spot that is a Kid", func(d *api.ScopeDef) { d.Spots[0].Node = 15 }), chans("Node of a Spot above", func(d *api.ScopeDef) { d.Spots[0].Node = 0 }), chans("Node of a Spot -1", func(d *api.ScopeDef) { d.Spots[0].Node = -1 }), chans("Node of a Spot 16", func(d *api.ScopeDef) { d.Spots[1].Node = 16 }),
		chans("Node of a Spot twice", func(d *api.ScopeDef) { d.Spots[1].Node = 9 }), chans("Node of a rule and of a Spot", func(d *api.ScopeDef) { d.Spots[0].Node = 5 }), chans("a place too few", func(d *api.ScopeDef) { d.Spots = d.Spots[:1] }), chans("a place too many", func(d *api.ScopeDef) { d.Spots = append(d.Spots, d.Spots[0]) }),
		chans("a rule too few", func(d *api.ScopeDef) { d.Rules = d.Rules[:2] }), chans("a rule twice", func(d *api.ScopeDef) { d.Rules = append(d.Rules, d.Rules[1]) }), chans("no rules", func(d *api.ScopeDef) { d.Rules = nil }),
		chans("At of a rule", func(d *api.ScopeDef) { d.Rules[2].At = 2 }), chans("At of a rule 3", func(d *api.ScopeDef) { d.Rules[2].At = 3 }), chans("At of a rule -1", func(d *api.ScopeDef) { d.Rules[0].At = -1 }),
		chans("Node of a rule", func(d *api.ScopeDef) { d.Rules[1].Node = 1 }), chans("Node of a rule -1", func(d *api.ScopeDef) { d.Rules[1].Node = -1 }), chans("Node of a rule 16", func(d *api.ScopeDef) { d.Rules[1].Node = 16 }), chans("Nodes exchanged", func(d *api.ScopeDef) { d.Rules[0].Node, d.Rules[1].Node = 5, 1 }),
		joins(0), joins(0, 0), joins(0, 0, 0), joins(0, 0, 1, 0), joins(0, 0, 1, 2, 3), joins(0, 0, 1, 4), joins(0, 0, 1, -1), joins(0, 0, 3), joins(2, 2), joins(2, 3, 3), joins(1, 1, 0), joins(1, 1),
	}
}

func TestUnformed(t *testing.T) {
	for _, c := range slices.Concat(unformed(), unformedDefs()) {
		p := bind(t, rich)
		c.do(&p)
		if e := scope.Check(p); e != api.ErrArg || isFormed(p) {
			t.Error(c.what, e, show(p))
		}
	}
	ring := api.ScopeProg{Nodes: []api.ScopeNode{node(api.TermDef, 0, 1), node(api.TermDef, 0, 0)}, Defs: []api.ScopeDef{{}}}
	two := api.ScopeProg{Nodes: []api.ScopeNode{node(api.TermDef, 0, 1), node(api.TermDef, 0, 2), node(api.TermNil, 0)}, Defs: []api.ScopeDef{{}}}
	half := chain(2)
	half.Nodes[2].N = 0
	huge := api.ScopeProg{Free: make([]string, 1<<20), Nodes: make([]api.ScopeNode, 1<<20), Defs: make([]api.ScopeDef, 1<<20)}
	many := letters(12)
	many = append(many, "m")
	for i, p := range []api.ScopeProg{
		{}, ring, two, half, huge, long(61), chain(13), broad(31, 0, 11), broad(1, 0, 31), broad(1, 31, 1), {Free: many, Nodes: []api.ScopeNode{node(api.TermNil, 0)}},
		{Nodes: []api.ScopeNode{node(api.TermGo, 0, 0)}, Free: []string{"a"}}, {Nodes: []api.ScopeNode{node(api.TermSend, 0)}}, {Nodes: make([]api.ScopeNode, 1)},
		{Nodes: []api.ScopeNode{node(api.TermDef, 0, 1), node(api.TermNil, 0)}}, {Nodes: []api.ScopeNode{node(api.TermNil, 0)}, Defs: []api.ScopeDef{{}}},
		{Free: []string{strings.Repeat("a", 1<<20)}, Nodes: []api.ScopeNode{node(api.TermNil, 0)}},
	} {
		if e := scope.Check(p); e != api.ErrArg || isFormed(p) {
			t.Error(i, e)
		}
	}
}

func TestCheckChance(t *testing.T) {
	m := newMaker(1)
	n := 0
	for range 6000 {
		p := m.program()
		if e := scope.Check(p); e != api.OK {
			t.Fatal(e, show(p))
		}
		m.spoil(&p)
		is := isFormed(p)
		if (scope.Check(p) == api.OK) != is {
			t.Fatal(is, show(p))
		}
		if !is {
			n++
		}
	}
	if n < 2000 {
		t.Errorf("only %d programs that are not formed", n)
	}
}
