package scope_test

import (
	"slices"
	"strings"
	"testing"

	"cabotage/api"
	"cabotage/scope"
	"cabotage/term"
)

// P3.4

func TestBind(t *testing.T) {
	for _, c := range []struct{ source, want string }{
		{"0", " main 0\n0 nil 0 >\n"},
		{"stop", " main 0\n0 stop 0 >\n"},
		{"x(y + ~2 * x, 0 < y, b == b)", "b x y main 0\n0 send 1 3/0(2 5/0(#-2 1)) 6/0(#0 2) 7/0(0 0) >\n"},
		{"if a - 1 then go b; 0 else watch a; 0 | stop", `a b main 0
0 if 0 4/0(0 #1) > 1 3
1 go 1 > 2
2 nil 0 >
3 watch 0 > 4
4 par 0 > 5 6
5 nil 0 >
6 stop 0 >
`},
		{example, `b q z main 0
0 def 0 > 4
1 send 2 6 0 >
2 go 1 > 3
3 send 3 #1 >
4 par 0 > 5 6
5 send 4 >
6 watch 5 > 7
7 nil 0 >
0 chans [{0 1} {0 0}] spots [{0 2}] rules [{0 [0 1] 1}]
`},
		{rich, `o out main 0
0 def 0 > 12
1 if 0 6/0(8 #1) > 2 3
2 send 1 3/0(8 #-2) 2 >
3 watch 6 > 4
4 stop 0 >
5 nil 0 >
6 def 1 > 8
7 send 3 >
8 send 10 >
9 send 5 #1 7 >
10 go 6 > 11
11 nil 0 >
12 par 0 > 13 14
13 send 3 >
14 go 0 > 15
15 send 2 #3 >
0 chans [{0 1} {0 0} {0 0} {1 2}] spots [{0 9} {1 10}] rules [{0 [0 1] 1} {0 [2] 5} {1 [3] 6}]
1 chans [{0 0}] spots [] rules [{0 [0] 7}]
`},
		{many, `o p q main 0
0 def 0 > 11
1 nil 0 >
2 nil 0 >
3 nil 0 >
4 nil 0 >
5 nil 0 >
6 nil 0 >
7 nil 0 >
8 nil 0 >
9 nil 0 >
10 nil 0 >
11 par 0 > 12 15
12 def 1 > 14
13 send 0 1 >
14 nil 0 >
15 go 2 > 16
16 nil 0 >
0 chans [{0 0} {0 0} {0 0} {1 0} {1 0} {1 0} {3 0}] spots [{0 6} {1 7} {1 8} {3 9} {0 10}] rules [{0 [0 1] 1} {0 [1 2] 2} {1 [3] 3} {1 [4 5] 4} {3 [6] 5}]
1 chans [{0 0}] spots [] rules [{0 [0] 13}]
`},
		{ // places before rules, and rules of a place behind those of the places in it
			"def place p { place q { w(a) = a() in w(p) } and v() = v() in q() } and y() & x(b, c) = w(b) and x(b, c) = x(c, b) in v()", ` main 0
0 def 0 > 7
1 send 3 6 >
2 send 1 7 6 >
3 send 2 >
4 send 6 >
5 send 5 >
6 send 3 4 >
7 send 2 >
0 chans [{0 0} {0 2} {1 0} {2 1}] spots [{0 5} {1 6}] rules [{0 [0 1] 1} {0 [1] 2} {1 [2] 3} {2 [3] 4}]
`},
	} {
		p := bind(t, c.source)
		if show(p) != c.want {
			t.Errorf("%s:\n%s", c.source, show(p))
		}
	}
}

// TestShadow: a name is the last place at which it stands.
func TestShadow(t *testing.T) {
	for _, c := range []struct{ source, want string }{
		{"x() | def x() = x() in x()", "0 1 1"},                                        // free beside, bound within
		{"x() | def x() = x() in def x() = x() in x()", "0 1 2 2"},                     // a definition in its like
		{"def x(x) = x() in x(x)", "1 0"},                                              // a value like its channel
		{"def x(p) = p(x) and place p { in p() } in p()", "2 1 1"},                     // a value like a place
		{"def x(a) = def a(b) = b(a) in a(b) in 0", "4 3"},                             // a definition like a value
		{"def x(a) & y(b) = a(b) and z(b, a) = a(b) in 0", "3 4"},                      // as many values, in another order
		{"def x(a) = a() and y(a) = a() in a()", "3 3 0"},                              // each rule has its own
		{"(def x() = y() in x()) | x() | y()", "1 2 0 1"},                              // a definition is over
		{"def place p { x() = q() in x() } and place q { in p() } in x(q)", "2 0 1 0"}, // all over the definition
	} {
		p := bind(t, c.source)
		var got []string
		for _, n := range p.Nodes {
			if n.Op == api.TermSend {
				got = append(got, string(rune('0'+n.N)))
			}
		}
		if strings.Join(got, " ") != c.want {
			t.Error(c.source, got)
		}
	}
}

// defining is a source of so many definitions in each other.
func defining(n int) string { return strings.Repeat("def x() = 0 in ", n) + "0" }

// joining is a source of one definition of so many channels, with places in it.
func joining(channels int) string {
	var rules []string
	for i := 0; i < channels; i += 3 {
		var joins []string
		for j := i; j < min(i+3, channels); j++ {
			joins = append(joins, "x"+string(rune('a'+j/6))+string(rune('a'+j%6))+"()")
		}
		rules = append(rules, strings.Join(joins, " & ")+" = 0")
	}
	defs := strings.Join(rules[8:], " and ")
	defs = strings.Join(rules[4:8], " and ") + " and place q { " + defs + " in 0 }"
	return "def " + strings.Join(rules[:4], " and ") + " and place p { " + defs + " in 0 } in 0"
}

func TestBindLong(t *testing.T) {
	twelve := "(a() | b() | c() | d()) | (e() | f() | g() | h()) | (i() | j() | k() | l())"
	for _, s := range []string{twelve, "(" + defining(6) + ") | " + defining(6), joining(30), "(" + joining(30) + ") | " + defining(6)} {
		p := bind(t, s)
		if scope.Check(p) != api.OK {
			t.Error(s)
		}
	}
	for _, s := range []string{"m() | (" + twelve + ")", "m(a) | (" + twelve + ")", "(" + defining(6) + ") | " + defining(7), joining(31), joining(33), "go a; " + joining(31)} {
		if p, e := scope.Bind(parse(t, s)); e != api.ErrLong || !same(p, api.ScopeProg{}) {
			t.Error(s, e, show(p))
		}
	}
}

func TestBindUnformed(t *testing.T) {
	none := api.Term{Op: api.TermNil}
	one := []api.Term{none}
	place := api.TermClause{Form: api.TermPlace, Text: "p", Kids: one}
	for i, u := range []api.Term{
		{}, {Op: 9}, {Op: api.TermNil, Text: "x"}, {Op: api.TermSend}, {Op: api.TermSend, Text: "in"}, {Op: api.TermPar, Kids: one}, {Op: api.TermDef, Kids: one},
		{Op: api.TermDef, Defs: []api.TermClause{place, place}, Kids: one}, {Op: api.TermGo, Text: "p", Kids: []api.Term{{}}},
		{Op: api.TermSend, Text: "x", Args: []api.TermExp{{Op: api.TermInt, N: api.TermMost + 1}}},
	} {
		if p, e := scope.Bind(u); e != api.ErrArg || !same(p, api.ScopeProg{}) {
			t.Error(i, e, show(p))
		}
	}
}

// rulesFirst returns a process whose rules stand before the places beside them,
// which is how the process for a program has them.
func rulesFirst(u api.Term) api.Term {
	u.Defs = clausesFirst(u.Defs)
	u.Kids = slices.Clone(u.Kids)
	for i, k := range u.Kids {
		u.Kids[i] = rulesFirst(k)
	}
	return u
}

func clausesFirst(l []api.TermClause) []api.TermClause {
	l = slices.Clone(l)
	slices.SortStableFunc(l, func(a, b api.TermClause) int { return int(a.Form) - int(b.Form) })
	for i, c := range l {
		l[i].Defs = clausesFirst(c.Defs)
		l[i].Kids = []api.Term{rulesFirst(c.Kids[0])}
	}
	return l
}

func TestBindChance(t *testing.T) {
	processes(t, 4, func(m *maker, u api.Term) {
		p, e := scope.Bind(u)
		if e != api.OK || !isFormed(p) || !newPlain(p).inOrder() {
			t.Fatal(e, printed(u), show(p))
		}
		// Up to bound names, the process for its program is the process.
		if alike, e := term.Alike(newPlain(p).term(), rulesFirst(u)); e != api.OK || !alike {
			t.Fatal(e, printed(u), show(p))
		}
		// What is the same up to bound names has the same program.
		v, _ := term.Canon(u)
		if q, e := scope.Bind(v); e != api.OK || !same(p, q) {
			t.Fatal(e, printed(u), printed(v), show(p), show(q))
		}
		free, _ := term.Free(u)
		if !slices.Equal(p.Free, free) {
			t.Fatal(free, show(p))
		}
	})
}

func TestAlike(t *testing.T) {
	p := bind(t, example)
	for _, s := range []string{
		"def y(c) & x() = z(c, b) and place a { in go q; y(1) } in x() | watch a; 0",
		"def a(e) & c() = z(e, b) and place d { in go q; a(1) } in c() | watch d; 0",
	} {
		if q := bind(t, s); !same(p, q) {
			t.Error(s, show(q))
		}
	}
	for _, s := range []string{
		"def x(a) & y() = z(b, a) and place p { in go q; x(1) } in y() | watch p; 0",
		"def y() & x(a) = z(a, b) and place p { in go q; x(1) } in y() | watch p; 0",
		"def x(b) & y() = z(b, b) and place p { in go q; x(1) } in y() | watch p; 0",
		"def x(a) & y() = z(a, b) and place p { in go p; x(1) } in y() | watch p; 0",
	} {
		if q := bind(t, s); same(p, q) {
			t.Error(s)
		}
	}
}
