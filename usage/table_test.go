package usage_test

import (
	"slices"
	"testing"

	"cabotage/api"
	"cabotage/sample"
	"cabotage/usage"
)

// P5.2, P5.4, P5.7

func TestTable(t *testing.T) {
	for _, c := range []struct{ source, table string }{
		{example, exampleTable},
		{"def x(a) = a(1) | a(2) and y(b) & z(c) = b(c) in y(out) | z(x)", "*!! *1 (*)(1)(*)"},
		{"def x() = x() in x()", "* * ()"},
		{"def x() = x() in 0", "0 0 ()"},
		{"def k(a) = 0 in def r() = k(r) in r() | k(1)", "* * (0); ! 1 ()"},
		{"def k(a) = a() in def r() = k(r) in r()", "* * (1); * * ()"},
		{"0", ""},
		{"x(y)", ""},
		{"def place p { in 0 } in go p; stop", "- - -"},
		// The kinds of channels.
		{"def x() = 0 in x()", "! 1 ()"},
		{"def x() = 0 in x() | x()", "* * ()"},
		{"def x() = 0 in x() | 0 | stop", "! 1 ()"},
		{"def x() = 0 in if 1 then x() else 0", "1 1 ()"},
		{"def x() = 0 in if 1 then x() else x()", "! 1 ()"},
		{"def x() = 0 in if 1 then x() else x() | x()", "* * ()"},
		{"def x() = 0 in go p; x()", "1 1 ()"},
		{"def x() = 0 in watch p; x()", "1 1 ()"},
		{"def x() = 0 in out(x)", "* * ()"},
		{"def x() = 0 in out(1, x == 1)", "0 0 ()"},
		{"def x() = 0 and place p { in x() } in 0", "! 1 ()"},
		{"def x() = 0 and place p { in x() } in x()", "* * ()"},
		{"def place p { x() = 0 in 0 } in x()", "! 1 ()"},
		{"def x() = 0 in def w() = 0 in x()", "! 1 (); 0 0 ()"},
		{"def x() = 0 in def w() = 0 and place p { in x() } in w()", "! 1 (); ! 1 ()"},
		{"def x() = 0 in def w() = x() in w()", "1 1 (); ! 1 ()"},
		{"def x() = 0 in def w() = x() in 0", "0 0 (); 0 0 ()"},
		{"def x() = 0 in def w() = x() in w() | w()", "* * (); * * ()"},
		{"def x() = 0 in def w() & v() = x() in w() | v() | v()", "1 1 (); !* 1 ()()"},
		{"def x() = 0 in def w() & v() = x() in v() | v()", "0 0 (); 0* 0 ()()"},
		{"def x() = 0 in def w() = x() and v() = x() in w() | v()", "* * (); !! 11 ()()"},
		// A definition in a rule is of each group anew.
		{"def w() = def x() = 0 in x() in w() | w()", "* * (); ! 1 ()"},
		{"def w() = def x() = 0 in out(x) in 0", "0 0 (); * * ()"},
		// Messages that bring too much or too little.
		{"def x(a) = a() in x() | x(x, x)", "0 0 (0)"},
		{"def x(a) = 0 in def k(b) = b() in k(x, x) | k()", "0 0 (0); 0 0 (0)"},
		// What messages bring.
		{"def k(a) = 0 in def r() = 0 in k(r)", "! 1 (0); 0 0 ()"},
		{"def k(a) = a() in def r() = 0 in k(r)", "! 1 (1); 1 1 ()"},
		{"def k(a) = a() | a() in def r() = 0 in k(r)", "! 1 (*); * * ()"},
		{"def k(a) = out(a) in def r() = 0 in k(r)", "! 1 (*); * * ()"},
		{"def k(a) = a() in def r() = 0 in k(r) | r()", "! 1 (1); * * ()"},
		{"def k(a, b) = b() in def r() = 0 in k(r, 1)", "! 1 (01); 0 0 ()"},
		{"def k(a, b) = b() in def r() = 0 in k(r, r)", "! 1 (01); 1 1 ()"},
		{"def k(a, b) = a() | b() in def r() = 0 in k(r, r)", "! 1 (11); * * ()"},
		{"def k(a, b, c) & l(d) = d(b) in def r() = 0 in k(1, r, 2) | l(3)", "!! 1 (0*0)(1); * * ()"},
		{"def k(a) = a() and l(b) = k(b) in def r() = 0 in l(r)", "1! 11 (1)(1); 1 1 ()"},
		{"def k(a) = a() and l(b) = k(b) | k(b) in def r() = 0 in l(r)", "*! *1 (1)(*); * * ()"},
		{"def k(a) = k(a) in def r() = 0 in k(r)", "* * (0); 0 0 ()"},
		{"def k(a) = a(1) in k(k)", "* * (1)"},
		{"def x() = 0 in x(x)", "0 0 ()"},
		{"def x(a) = 0 in x(x)", "! 1 (0)"},
		{"def x(a) = a() in def r() = 0 and place p { in x(r) } in 0", "! 1 (1); 1 1 ()"},
		{"def k(a) = if 1 then a() else 0 in def r() = 0 in k(r)", "! 1 (1); 1 1 ()"},
		{"def k(a) = def v() = a() in v() in def r() = 0 in k(r)", "! 1 (1); ! 1 (); 1 1 ()"},
		{"def k(a) = def v() = a() in v() | v() in def r() = 0 in k(r)", "! 1 (*); * * (); * * ()"},
		// The second rule of a channel counts only if it can react.
		{"def k(a) = 0 and k(a) & l() = a() in def r() = 0 in k(r)", "!0 10 (0)(); 0 0 ()"},
		{"def k(a) = 0 and k(a) & l() = a() in def r() = 0 in k(r) | l()", "!! 11 (1)(); 1 1 ()"},
		{"def k(a) = a() and k(a) & l() = a() | a() in def r() = 0 in k(r) | l()", "!! 11 (*)(); * * ()"},
	} {
		if got := show(found(t, bind(t, c.source))); got != c.table {
			t.Errorf("%s: %s, not %s", c.source, got, c.table)
		}
	}
}

// TestTableByChance holds tables against the plain reading, in which they grow in
// another order.
func TestTableByChance(t *testing.T) {
	m := newMaker(1)
	seen := map[rune]int{}
	for range 3000 {
		p := m.program(5)
		got := found(t, p)
		if want := newPlain(p).table(m); show(got) != show(want) {
			t.Fatal(source(p), show(got), show(want))
		}
		if is, e := usage.Accepts(p, got); !is || e != api.OK {
			t.Fatal(source(p), show(got), e)
		}
		for _, r := range show(got) {
			seen[r]++
		}
	}
	for _, r := range "0!1*" {
		if seen[r] < 500 {
			t.Errorf("only %d of %c", seen[r], r)
		}
	}
}

func TestTableErrors(t *testing.T) {
	for i, p := range unformed(t) {
		if u, e := usage.Table(p); e != api.ErrArg || u != nil {
			t.Error(i, u, e)
		}
	}
}

// notLess reports whether no count of a table is less than that of the same thing in
// another one.
func notLess(p api.ScopeProg, t, least []api.UsageDef) bool {
	return !slices.ContainsFunc(items(p), func(i item) bool { return counted(*i.in(t)) < counted(*i.in(least)) })
}

// onceIn reports whether all that is UsageOnce in a table is so in another one.
func onceIn(p api.ScopeProg, t, least []api.UsageDef) bool {
	return !slices.ContainsFunc(items(p), func(i item) bool {
		return *i.in(t) == api.UsageOnce && *i.in(least) != api.UsageOnce
	})
}

// TestLeast: no accepted table has less.
func TestLeast(t *testing.T) {
	m := newMaker(2)
	accepted, other := 0, 0
	for range 6000 {
		p := m.program(5)
		least := found(t, p)
		q := newPlain(p)
		u := m.raised(p, least)
		if m.IntN(3) > 0 {
			u = q.grown(m, u)
		}
		is, e := usage.Accepts(p, u)
		if e != api.OK {
			t.Fatal(source(p), show(u), e)
		}
		if !is {
			continue
		}
		accepted++
		if show(u) != show(least) {
			other++
		}
		if !notLess(p, u, least) || !onceIn(p, u, least) {
			t.Fatal(source(p), show(u), show(least))
		}
	}
	if accepted < 2000 || other < 1500 {
		t.Error(accepted, other)
	}
}

// TestLeastOfAll goes through all tables of small programs.
func TestLeastOfAll(t *testing.T) {
	m := newMaker(3)
	done := 0
	for range 3000 {
		p := m.program(2)
		l := items(p)
		if len(l) == 0 || len(l) > 6 {
			continue
		}
		done++
		least := found(t, p)
		u := copied(least)
		var visit func(n int)
		visit = func(n int) {
			if n == len(l) {
				if is, _ := usage.Accepts(p, u); is && (!notLess(p, u, least) || !onceIn(p, u, least)) {
					t.Fatal(source(p), show(u), show(least))
				}
				return
			}
			for k := api.UsageNever; k <= api.UsageMany; k++ {
				if k != api.UsageOnce || l[n].part == channels {
					*l[n].in(u) = k
					visit(n + 1)
				}
			}
		}
		visit(0)
		if done == 60 {
			return
		}
	}
	t.Error("only", done)
}

// TestExchanged: the order of the two Kids of a TermPar, or of a TermIf, is of no
// account.
func TestExchanged(t *testing.T) {
	m := newMaker(4)
	done := 0
	for range 3000 {
		p := m.program(5)
		before := show(found(t, p))
		for _, n := range p.Nodes {
			if len(n.Kids) == 2 && m.IntN(3) > 0 {
				done++
				slices.Reverse(n.Kids)
			}
		}
		if after := show(found(t, p)); before != after {
			t.Fatal(source(p), before, after)
		}
	}
	if done < 2000 {
		t.Error("only", done)
	}
}

// TestBeside: with one more TermSend beside a node no count is less.
func TestBeside(t *testing.T) {
	m := newMaker(5)
	done, more := 0, 0
	for range 6000 {
		p := m.program(5)
		n := m.IntN(len(p.Nodes))
		q := newPlain(p)
		env := make([]int, len(q.envs[n]))
		for i, c := range q.envs[n] {
			env[i] = sample.Anything
			if c != nothing {
				env[i] = p.Defs[c.def].Chans[c.index].Many
			}
		}
		if len(env) == 0 || len(p.Nodes)+2 > api.ScopeNodes {
			continue
		}
		before := found(t, p)
		last := len(p.Nodes)
		p.Nodes = append(p.Nodes, p.Nodes[n], sample.Send(m.IntN, env))
		p.Nodes[n] = api.ScopeNode{Op: api.TermPar, Kids: []int{last, last + 1}}
		after := found(t, p)
		if !notLess(p, after, before) {
			t.Fatal(source(p), show(before), show(after))
		}
		done++
		if show(before) != show(after) {
			more++
		}
	}
	if done < 2000 || more < 500 {
		t.Error(done, more)
	}
}
