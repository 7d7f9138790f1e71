package scope_test

import (
	"slices"
	"testing"

	"cabotage/api"
	"cabotage/scope"
)

// P3.3

func inOrder(t *testing.T, p api.ScopeProg) bool {
	t.Helper()
	is, e := scope.InOrder(p)
	if e != api.OK {
		t.Fatal(e, show(p))
	}
	return is
}

// many has places, rules and channels enough to exchange: the places a to e, of
// which b and c are in a, and d is in c.
const many = "def x() & y() = 0 and y() & z() = 0 and place a { u() = 0 and v() & w() = 0 and" +
	" place b { in 0 } and place c { r() = 0 and place d { in 0 } in 0 } in 0 } and place e { in 0 }" +
	" in (def s() = o(p) in 0) | go q; 0"

func TestInOrder(t *testing.T) {
	for _, s := range []string{"0", "x(y)", example, rich, many} {
		if !inOrder(t, bind(t, s)) {
			t.Error(s)
		}
	}
	nothing := api.ScopeProg{Nodes: []api.ScopeNode{node(api.TermDef, 0, 1), node(api.TermNil, 0)}, Defs: []api.ScopeDef{{}}}
	if !inOrder(t, nothing) || !inOrder(t, chain(12)) {
		t.Error("definitions that are in order")
	}
}

func TestOutOfOrder(t *testing.T) {
	for _, c := range []change{
		{"channels of one rule", func(p *api.ScopeProg) { p.Defs[0].Rules[0].Joins = []int{1, 0} }},
		{"channels of two rules", func(p *api.ScopeProg) { p.Defs[0].Rules[0].Joins, p.Defs[0].Rules[1].Joins = []int{0, 2}, []int{0, 1} }},
		{"rules of one place", func(p *api.ScopeProg) {
			r := p.Defs[0].Rules
			r[0].Joins, r[1].Joins = r[1].Joins, r[0].Joins
		}},
		{"rules of two places", func(p *api.ScopeProg) {
			r := p.Defs[0].Rules
			r[1], r[2] = r[2], r[1]
			r[1].Node, r[2].Node = r[2].Node, r[1].Node
		}},
		{"rules of two places, with their nodes", func(p *api.ScopeProg) {
			r := p.Defs[0].Rules
			r[3], r[4] = r[4], r[3]
		}},
		{"channels by their At", func(p *api.ScopeProg) {
			d := &p.Defs[0]
			d.Chans[2], d.Chans[3] = d.Chans[3], d.Chans[2]
			d.Rules[1].Joins, d.Rules[2].Joins = []int{1, 3}, []int{2}
		}},
		{"a place in an earlier one", func(p *api.ScopeProg) { p.Defs[0].Spots[4].In = 2 }},
		{"a place in the one beside", func(p *api.ScopeProg) { p.Defs[0].Spots[3].In = 2 }},
		{"a place in the second one beside", func(p *api.ScopeProg) {
			s := p.Defs[0].Spots
			s[1].In, s[2].In, s[3].In = 0, 0, 2
		}},
		{"a place behind others", func(p *api.ScopeProg) { p.Defs[0].Spots[1].In, p.Defs[0].Spots[2].In = 0, 1 }},
		{"a Free that is not needed", func(p *api.ScopeProg) { p.Nodes[13].Args = nil }},
		{"another Free that is not needed", func(p *api.ScopeProg) { p.Nodes[15].N = 0 }},
		{"nodes of rules", func(p *api.ScopeProg) { p.Defs[0].Rules[0].Node, p.Defs[0].Rules[1].Node = 2, 1 }},
		{"nodes of places", func(p *api.ScopeProg) { p.Defs[0].Spots[0].Node, p.Defs[0].Spots[1].Node = 7, 6 }},
		{"nodes of a rule and a place", func(p *api.ScopeProg) { p.Defs[0].Rules[0].Node, p.Defs[0].Spots[0].Node = 6, 1 }},
		{"definitions", func(p *api.ScopeProg) {
			p.Defs[0], p.Defs[1] = p.Defs[1], p.Defs[0]
			p.Nodes[0].N, p.Nodes[12].N = 1, 0
		}},
		{"a Kid before a rule", func(p *api.ScopeProg) { p.Nodes[12].Kids[0], p.Defs[1].Rules[0].Node = 13, 14 }},
		{"Kids", func(p *api.ScopeProg) { slices.Reverse(p.Nodes[11].Kids) }},
		{"Main", func(p *api.ScopeProg) {
			n := p.Nodes
			n[0], n[16] = n[16], n[0]
			n[15].Kids[0], p.Main = 0, 16
		}},
	} {
		p := bind(t, many)
		before := show(p)
		c.do(&p)
		if inOrder(t, p) || show(p) == before || newPlain(p).inOrder() {
			t.Error(c.what, show(p))
		}
	}
}

func TestOrderChance(t *testing.T) {
	count := map[bool]int{}
	formed(t, 3, func(m *maker, p api.ScopeProg) {
		is := inOrder(t, p)
		if is != newPlain(p).inOrder() {
			t.Fatal(is, show(p))
		}
		// A program is in order just if it is that of its process.
		if u, e := scope.Term(p); e == api.OK {
			if q, e := scope.Bind(u); e != api.OK || is != same(p, q) {
				t.Fatal(e, is, show(p), show(q))
			}
		}
		count[is]++
	})
	if count[true] < 500 || count[false] < 500 {
		t.Error(count)
	}
}
