package read_test

import (
	"slices"
	"strings"
	"testing"

	"cabotage/api"
	"cabotage/read"
	"cabotage/term"
)

// P2.4

func TestProcesses(t *testing.T) {
	a, b, c := send("a"), send("b"), send("c")
	par := func(l ...api.Term) api.Term { return node(api.TermPar, l...) }
	for s, want := range map[string]api.Term{
		example:                          tree(),
		"0":                              zero,
		"stop":                           stop,
		"(0)":                            zero,
		"((stop))":                       stop,
		"a()":                            a,
		"(a())":                          a,
		"x(1)":                           send("x", num(1)),
		"x(a, ~2, 3)":                    send("x", name("a"), num(-2), num(3)),
		"x((a))":                         send("x", name("a")),
		"x((1 < 2), (a) == 1)":           send("x", exp(api.TermLess, num(1), num(2)), exp(api.TermSame, name("a"), num(1))),
		"a() | b() | c()":                par(a, par(b, c)),
		"(a() | b()) | c()":              par(par(a, b), c),
		"a() | (b() | c())":              par(a, par(b, c)),
		"(a()) | (0)":                    par(a, zero),
		"go p; a() | b()":                headed(api.TermGo, "p", par(a, b)),
		"(go p; a()) | b()":              par(headed(api.TermGo, "p", a), b),
		"a() | go p; b() | c()":          par(a, headed(api.TermGo, "p", par(b, c))),
		"watch p; watch q; 0":            headed(api.TermWatch, "p", headed(api.TermWatch, "q", zero)),
		"if 1 then a() else b() | c()":   when(num(1), a, par(b, c)),
		"(if 1 then a() else b()) | c()": par(when(num(1), a, b), c),
		"if (1) then a() | b() else c()": when(num(1), par(a, b), c),
		"if x then if 1 then a() else b() else c()":                       when(name("x"), when(num(1), a, b), c),
		"if x then a() else if 1 then b() else c()":                       when(name("x"), a, when(num(1), b, c)),
		"if x then go p; a() else b()":                                    when(name("x"), headed(api.TermGo, "p", a), b),
		"def x() = 0 in a() | b()":                                        def(par(a, b), rule(zero, join("x"))),
		"(def x() = 0 in a()) | b()":                                      par(def(a, rule(zero, join("x"))), b),
		"def x() = a() | b() and y(u, v) = 0 in 0":                        def(zero, rule(par(a, b), join("x")), rule(zero, join("y", "u", "v"))),
		"def x(u) & y() & z(v, w) = stop in 0":                            def(zero, rule(stop, join("x", "u"), join("y"), join("z", "v", "w"))),
		"def x() = 0 and x() & y() = 0 in 0":                              def(zero, rule(zero, join("x")), rule(zero, join("x"), join("y"))),
		"def place p { in a() } in 0":                                     def(zero, place("p", a)),
		"def place p { x() = 0 and y() = a() in b() } and z() = 0 in c()": def(c, place("p", b, rule(zero, join("x")), rule(a, join("y"))), rule(zero, join("z"))),
		"def place p { place q { in a() } and x() = 0 in b() } in 0":      def(zero, place("p", b, place("q", a), rule(zero, join("x")))),
		"def x() = def y() = 0 and z() = 0 in a() and w() = 0 in b()":     def(b, rule(def(a, rule(zero, join("y")), rule(zero, join("z"))), join("x")), rule(zero, join("w"))),
		"def x() = go p; 0 and y() = 0 in 0":                              def(zero, rule(headed(api.TermGo, "p", zero), join("x")), rule(zero, join("y"))),
		"\t//\na\n(\n) // |":                                              a,
	} {
		if u, e := read.Parse(s); e != api.OK || text(u) != text(want) {
			t.Errorf("%q: %s, error %d, not %s", s, text(u), e, text(want))
		}
	}
}

func TestExpressions(t *testing.T) {
	a, b, c := name("a"), name("b"), name("c")
	two := func(op api.TermSign, x, y api.TermExp) api.TermExp { return exp(op, x, y) }
	for s, want := range map[string]api.TermExp{
		"1 - 2 - 3 * 4 == ~5": two(api.TermSame, two(api.TermSub, two(api.TermSub, num(1), num(2)), two(api.TermMul, num(3), num(4))), num(-5)),
		"0":                   num(0),
		"~1":                  num(-1),
		"1000000000":          num(1000000000),
		"~1000000000":         num(-1000000000),
		"a":                   a,
		"((a))":               a,
		"a + b":               two(api.TermAdd, a, b),
		"a - b":               two(api.TermSub, a, b),
		"a * b":               two(api.TermMul, a, b),
		"a < b":               two(api.TermLess, a, b),
		"a == b":              two(api.TermSame, a, b),
		"a + b + c":           two(api.TermAdd, two(api.TermAdd, a, b), c),
		"a + b - c":           two(api.TermSub, two(api.TermAdd, a, b), c),
		"a - b + c":           two(api.TermAdd, two(api.TermSub, a, b), c),
		"a - (b + c)":         two(api.TermSub, a, two(api.TermAdd, b, c)),
		"a * b * c":           two(api.TermMul, two(api.TermMul, a, b), c),
		"a * (b * c)":         two(api.TermMul, a, two(api.TermMul, b, c)),
		"a + b * c":           two(api.TermAdd, a, two(api.TermMul, b, c)),
		"a * b + c":           two(api.TermAdd, two(api.TermMul, a, b), c),
		"(a + b) * c":         two(api.TermMul, two(api.TermAdd, a, b), c),
		"a + b < b * c":       two(api.TermLess, two(api.TermAdd, a, b), two(api.TermMul, b, c)),
		"(a < b) < c":         two(api.TermLess, two(api.TermLess, a, b), c),
		"a == (b < c)":        two(api.TermSame, a, two(api.TermLess, b, c)),
		"(a == b) + c":        two(api.TermAdd, two(api.TermSame, a, b), c),
		"a*~2// b":            two(api.TermMul, a, num(-2)),
		"1-~2":                two(api.TermSub, num(1), num(-2)),
	} {
		if x, e := read.Exp(s); e != api.OK || expText(x) != expText(want) {
			t.Errorf("%q: %s, error %d, not %s", s, expText(x), e, expText(want))
		}
	}
	eleven := strings.Repeat("1 + ", 11) + "1" // of depth 12
	for s, want := range map[string]api.Errno{
		"": api.ErrText, "1 < 2 < 3": api.ErrText, "1 == 2 == 3": api.ErrText, "x()": api.ErrText, "1 2": api.ErrText, "(1": api.ErrText, "1)": api.ErrText, "-1": api.ErrText, "1 +": api.ErrText, "stop": api.ErrText,
		"1 $": api.ErrText, "07": api.ErrText, "~0": api.ErrText, "a, b": api.ErrText, "()": api.ErrText, "in": api.ErrText, "1 = 2": api.ErrText, "0 | 0": api.ErrText,
		"1000000001": api.ErrArg, "~1000000001": api.ErrArg, "9999999999": api.ErrArg, "~9999999999": api.ErrArg, "1 + 1000000001": api.ErrArg, "12345678901": api.ErrText,
		eleven: api.OK, eleven + " + 1": api.ErrArg, "(" + eleven + ")": api.OK,
		blanks(api.ReadLong-1) + "1": api.OK, blanks(api.ReadLong) + "1": api.ErrLong, blanks(api.ReadLong) + "$": api.ErrLong,
		// ErrText comes before ErrArg
		"1000000001 1": api.ErrText, "1000000001 $": api.ErrText,
	} {
		if x, e := read.Exp(s); e != want || want != api.OK && expText(x) != expText(api.TermExp{}) {
			t.Errorf("%q: %s, error %d, not %d", s, expText(x), e, want)
		}
	}
}

func TestParseErrors(t *testing.T) {
	go11 := strings.Repeat("go a; ", 11) + "0"                 // of depth 12
	zeros := "(0 | 0 | 0 | 0 | 0)"                             // of 9 nodes
	nodes := strings.Repeat(zeros+" | ", 5) + "go a; " + zeros // of 60 nodes, and of depth 11
	five := "def a() = 0 and b() = 0 and c() = 0 and d() = 0 and e() = 0"
	for s, want := range map[string]api.Errno{
		"": api.ErrText, "$": api.ErrText, "0 $": api.ErrText, "x": api.ErrText, "0 0": api.ErrText, "x(1": api.ErrText, "def x() = 0": api.ErrText, "1": api.ErrText, "07": api.ErrText, "0 // \n $": api.ErrText, "x() = 0": api.ErrText,
		blanks(api.ReadLong-1) + "0": api.OK, blanks(api.ReadLong) + "0": api.ErrLong, blanks(api.ReadLong) + "$": api.ErrLong, blanks(api.ReadLong-1) + "$": api.ErrText,
		// what is formed, and what is just not
		go11: api.OK, "go a; " + go11: api.ErrArg, nodes: api.OK, "go b; " + nodes: api.ErrArg,
		"x(1000000000, ~1000000000)": api.OK, "x(1000000001)": api.ErrArg, "x(~1000000001)": api.ErrArg, "x(9999999999)": api.ErrArg,
		"x(1, 2, 3)": api.OK, "x(1, 2, 3, 4)": api.ErrArg,
		"def x(a, b, c) = 0 in 0": api.OK, "def x(a, b, c, d) = 0 in 0": api.ErrArg,
		"def x() & y() & z() = 0 in 0": api.OK, "def x() & y() & z() & w() = 0 in 0": api.ErrArg,
		five + " in 0": api.OK, five + " and f() = 0 in 0": api.ErrArg,
		"def x(a, a) = 0 in 0": api.ErrArg, "def x(a) & y(a) = 0 in 0": api.ErrArg, "def x() & x() = 0 in 0": api.ErrArg,
		"def x(a) = 0 and x() = 0 in 0": api.ErrArg, "def x() = 0 and place x { in 0 } in 0": api.ErrArg, "def place p { in 0 } and place p { in 0 } in 0": api.ErrArg,
		"def place p { x() = 0 in 0 } and x() = 0 in 0": api.ErrArg, "def place p { place p { in 0 } in 0 } in 0": api.ErrArg,
		strings.Repeat("0|", 2999) + "0": api.ErrArg, strings.Repeat("(", 2999) + "0" + strings.Repeat(")", 2999): api.OK,
		// ErrText comes before ErrArg
		"x(1, 2, 3, 4) 0": api.ErrText, "x(1000000001) $": api.ErrText,
	} {
		u, e := read.Parse(s)
		l, err := read.Spots(s)
		if e != want || err != want || want != api.OK && (text(u) != text(api.Term{}) || l != nil) {
			t.Errorf("%.80q: errors %d, %d, not %d", s, e, err, want)
		}
	}
}

func TestSpots(t *testing.T) {
	for s, want := range map[string][][2]int{
		example:                    {{0, 82}, {4, 24}, {17, 24}, {19, 20}, {22, 23}, {37, 62}, {50, 60}, {56, 60}, {58, 59}, {66, 82}, {66, 69}, {72, 82}, {81, 82}},
		"0":                        {{0, 1}},
		" ( ( stop ) ) // 0":       {{5, 9}},
		"(0)|(x((1)))":             {{0, 12}, {1, 2}, {5, 11}, {8, 9}},
		"((0) | (0)) | (0)":        {{0, 17}, {1, 10}, {2, 3}, {8, 9}, {15, 16}},
		"go p; (0)":                {{0, 9}, {7, 8}},
		"watch p;0":                {{0, 9}, {8, 9}},
		"if (a) then (0) else (0)": {{0, 24}, {4, 5}, {13, 14}, {22, 23}},
		"x((1+2)*(3))":             {{0, 12}, {2, 11}, {3, 6}, {3, 4}, {5, 6}, {9, 10}},
		"x(1-2-(3-4))":             {{0, 12}, {2, 11}, {2, 5}, {2, 3}, {4, 5}, {7, 10}, {7, 8}, {9, 10}},
		"x(a<(b),~12)":             {{0, 12}, {2, 7}, {2, 3}, {5, 6}, {8, 11}},
		"x(1*2==3)":                {{0, 9}, {2, 8}, {2, 5}, {2, 3}, {4, 5}, {7, 8}},
		"def x(a) & y() = (0) and place p { z()=0 in (0)} in (0)": {{0, 55}, {4, 20}, {18, 19}, {25, 48}, {35, 40}, {39, 40}, {45, 46}, {53, 54}},
	} {
		l, e := read.Spots(s)
		if got := list(l, func(x api.ReadSpot) [2]int { return [2]int{x.From, x.To} }); !slices.Equal(got, want) || e != api.OK {
			t.Errorf("%q: %v, error %d", s, got, e)
		}
	}
}

// TestSpotsAlone: the piece of a source that a node is, read alone, is this node;
// no bracket around it belongs to it.
func TestSpotsAlone(t *testing.T) {
	sources(t, 6, func(m *maker, tokens []string, u api.Term) {
		source := m.spread(tokens)
		l, e := read.Spots(source)
		if n, _ := term.Nodes(u); e != api.OK || len(l) != n {
			t.Fatalf("%q: %d spots of %d nodes, error %d", source, len(l), n, e)
		}
		next := func() string {
			s := source[l[0].From:l[0].To]
			l = l[1:]
			return s
		}
		alone(t, u, next)
	})
}

// alone asks of each node that the next piece says it.
func alone(t *testing.T, u api.Term, next func() string) {
	t.Helper()
	s := next()
	if v, e := read.Parse(s); e != api.OK || text(v) != text(u) {
		t.Fatalf("%q: %s, error %d, not %s", s, text(v), e, text(u))
	}
	if bracketed(cut(t, s)) {
		t.Fatalf("%q is in brackets", s)
	}
	for _, e := range u.Args {
		aloneExp(t, e, next)
	}
	for _, c := range u.Defs {
		aloneClause(t, c, next)
	}
	for _, k := range u.Kids {
		alone(t, k, next)
	}
}

func aloneExp(t *testing.T, x api.TermExp, next func() string) {
	t.Helper()
	s := next()
	if y, e := read.Exp(s); e != api.OK || expText(y) != expText(x) {
		t.Fatalf("%q: %s, error %d, not %s", s, expText(y), e, expText(x))
	}
	if bracketed(cut(t, s)) {
		t.Fatalf("%q is in brackets", s)
	}
	for _, k := range x.Kids {
		aloneExp(t, k, next)
	}
}

func aloneClause(t *testing.T, c api.TermClause, next func() string) {
	t.Helper()
	s := next()
	v, e := read.Parse("def " + s + " in 0")
	if e != api.OK || text(v) != text(def(zero, c)) {
		t.Fatalf("%q: %s, error %d, not %s", s, text(v), e, clauseText(c))
	}
	if l := cut(t, s); s != strings.TrimSpace(s) || l[0] == "and" || l[len(l)-1] == "in" {
		t.Fatalf("%q is too long", s)
	}
	for _, d := range c.Defs {
		aloneClause(t, d, next)
	}
	for _, k := range c.Kids {
		alone(t, k, next)
	}
}

// bracketed reports whether the first token and the last one are brackets that
// belong together.
func bracketed(l []string) bool {
	open := 0
	for i, s := range l {
		switch s {
		case "(":
			open++
		case ")":
			open--
		}
		if open == 0 {
			return i > 0 && i == len(l)-1 && l[0] == "("
		}
	}
	return false
}
