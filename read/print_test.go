package read_test

import (
	"regexp"
	"slices"
	"strings"
	"testing"

	"cabotage/api"
	"cabotage/read"
	"cabotage/term"
)

// P2.5, and P0.6 of sources

func TestPrints(t *testing.T) {
	x := send("x")
	par := func(a, b api.Term) api.Term { return node(api.TermPar, a, b) }
	one := rule(zero, join("x"))
	for _, c := range []struct {
		t    api.Term
		want string
	}{
		{tree(), printed},
		{zero, "0"},
		{stop, "stop"},
		{x, "x()"},
		{send("x", num(-3), name("a"), num(0)), "x(~3, a, 0)"},
		{send("x", exp(api.TermLess, num(1), num(2))), "x(1 < 2)"},
		{par(par(stop, zero), zero), "(stop | 0) | 0"},
		{par(stop, par(zero, x)), "stop | 0 | x()"},
		{par(par(par(x, x), x), par(par(x, x), x)), "((x() | x()) | x()) | (x() | x()) | x()"},
		{par(when(num(1), zero, x), zero), "(if 1 then 0 else x()) | 0"},
		{par(zero, when(num(1), zero, x)), "0 | if 1 then 0 else x()"},
		{par(headed(api.TermGo, "p", x), x), "(go p; x()) | x()"},
		{par(headed(api.TermWatch, "p", x), x), "(watch p; x()) | x()"},
		{par(x, headed(api.TermWatch, "p", par(x, x))), "x() | watch p; x() | x()"},
		{par(def(x, one), x), "(def x() = 0 in x()) | x()"},
		{par(x, def(par(x, x), one)), "x() | def x() = 0 in x() | x()"},
		{headed(api.TermGo, "p", par(par(x, x), x)), "go p; (x() | x()) | x()"},
		{when(name("a"), par(par(x, x), x), par(x, x)), "if a then (x() | x()) | x() else x() | x()"},
		{when(exp(api.TermMul, exp(api.TermAdd, num(1), num(2)), num(3)), when(num(1), x, x), when(num(0), x, x)), "if (1 + 2) * 3 then if 1 then x() else x() else if 0 then x() else x()"},
		{def(zero, rule(def(x, one), join("y", "a", "b"), join("z")), rule(par(par(x, x), x), join("z"))), "def y(a, b) & z() = def x() = 0 in x() and z() = (x() | x()) | x() in 0"},
		{def(def(x, one), place("p", zero)), "def place p { in 0 } in def x() = 0 in x()"},
		{def(zero, place("p", par(x, x), one, place("q", stop))), "def place p { x() = 0 and place q { in stop } in x() | x() } in 0"},
		{def(zero, place("p", zero, rule(par(par(x, x), x), join("y"))), one), "def place p { y() = (x() | x()) | x() in 0 } and x() = 0 in 0"},
	} {
		if s, e := read.Print(c.t); s != c.want || e != api.OK {
			t.Errorf("%q, error %d, not %q", s, e, c.want)
		}
	}
}

func TestPrintsOfExpressions(t *testing.T) {
	a, b, c := name("a"), name("b"), num(-7)
	two := func(op api.TermSign, x, y api.TermExp) api.TermExp { return exp(op, x, y) }
	signs := []string{api.TermAdd: "+", api.TermSub: "-", api.TermMul: "*", api.TermLess: "<", api.TermSame: "=="}
	for o := api.TermAdd; o <= api.TermSame; o++ {
		for i := api.TermAdd; i <= api.TermSame; i++ {
			left := "a " + signs[i] + " b"
			inner, outer := rank(i), rank(o)
			want := left
			if inner < outer || outer == 0 && inner == 0 {
				want = "(" + left + ")"
			}
			if s, e := read.PrintExp(two(o, two(i, a, b), c)); s != want+" "+signs[o]+" ~7" || e != api.OK {
				t.Errorf("%q, error %d", s, e)
			}
			want = left
			if inner <= outer {
				want = "(" + left + ")"
			}
			if s, e := read.PrintExp(two(o, c, two(i, a, b))); s != "~7 "+signs[o]+" "+want || e != api.OK {
				t.Errorf("%q, error %d", s, e)
			}
		}
	}
	for want, x := range map[string]api.TermExp{
		"1 - (2 - 3)":           two(api.TermSub, num(1), two(api.TermSub, num(2), num(3))),
		"(1 < 2) == 0":          two(api.TermSame, two(api.TermLess, num(1), num(2)), num(0)),
		"0":                     num(0),
		"~1000000000":           num(-1000000000),
		"1000000000":            num(1000000000),
		"a":                     a,
		"((a + b) * a + b) * a": two(api.TermMul, two(api.TermAdd, two(api.TermMul, two(api.TermAdd, a, b), a), b), a),
		"a + b + a * b * a":     two(api.TermAdd, two(api.TermAdd, a, b), two(api.TermMul, two(api.TermMul, a, b), a)),
	} {
		if s, e := read.PrintExp(x); s != want || e != api.OK {
			t.Errorf("%q, error %d, not %q", s, e, want)
		}
	}
}

// rank is how tight an operator binds.
func rank(o api.TermSign) int {
	switch o {
	case api.TermLess, api.TermSame:
		return 0
	case api.TermMul:
		return 2
	}
	return 1
}

func TestPrintErrors(t *testing.T) {
	deep := zero
	for range api.TermDepth {
		deep = headed(api.TermGo, "p", deep)
	}
	for i, u := range []api.Term{{}, send("then"), send("abcdefghi"), send(""), {Op: api.TermPar}, {Op: 9}, {Op: api.TermNil, Text: "x"}, node(api.TermPar, zero, api.Term{}), send("x", api.TermExp{}), send("x", num(api.TermMost+1)),
		headed(api.TermGo, "x y", zero), def(zero), def(zero, api.TermClause{}), def(zero, rule(zero, join("x"), join("x"))), def(zero, place("p", zero), place("p", zero)), deep, send("x", num(1), num(1), num(1), num(1))} {
		if s, e := read.Print(u); s != "" || e != api.ErrArg {
			t.Errorf("%d: %q, error %d", i, s, e)
		}
	}
	for i, x := range []api.TermExp{{}, name("in"), name(""), num(api.TermMost + 1), num(-api.TermMost - 1), exp(api.TermAdd, num(1)), exp(api.TermAdd, num(1), api.TermExp{}), exp(8, num(1), num(1)), {Op: api.TermInt, Text: "a"}} {
		if s, e := read.PrintExp(x); s != "" || e != api.ErrArg {
			t.Errorf("%d: %q, error %d", i, s, e)
		}
	}
}

// TestReadAgain: what was printed is read as what it was, with other blanks too.
func TestReadAgain(t *testing.T) {
	sources(t, 7, func(m *maker, tokens []string, u api.Term) {
		s, e := read.Print(u)
		if e != api.OK || len(s) > api.ReadLong {
			t.Fatalf("%q: %d bytes, error %d", tokens, len(s), e)
		}
		for _, s := range []string{s, m.spread(cut(t, s)), m.spread(tokens)} {
			if v, e := read.Parse(s); e != api.OK || text(v) != text(u) {
				t.Fatalf("%q: %s, error %d, not %s", s, text(v), e, text(u))
			}
		}
		if again := spaced(cut(t, s)); s != again {
			t.Fatalf("%q, not %q", s, again)
		}
		if l := cut(t, s); len(l) > len(tokens) {
			t.Fatalf("%q is longer than %q", l, tokens)
		}
	})
}

// spaced writes tokens with the blanks of a source that is printed.
func spaced(l []string) string {
	s := strings.Join(l, " ")
	s = regexp.MustCompile(`\( `).ReplaceAllString(s, "(")
	s = regexp.MustCompile(` ([),;])`).ReplaceAllString(s, "$1")
	return regexp.MustCompile(`[a-z]+ \(`).ReplaceAllStringFunc(s, func(s string) string {
		if slices.Contains(keywords, s[:len(s)-2]) {
			return s
		}
		return s[:len(s)-2] + "("
	})
}

// TestNoBracketsLeft: without a pair of its brackets a printed source says
// something else, or nothing.
func TestNoBracketsLeft(t *testing.T) {
	pairs := 0
	sources(t, 8, func(m *maker, tokens []string, u api.Term) {
		s, _ := read.Print(u)
		l := cut(t, s)
		for i, j := range brackets(l) {
			pairs++
			less := slices.Delete(slices.Delete(slices.Clone(l), j, j+1), i, i+1)
			if v, e := read.Parse(strings.Join(less, " ")); e == api.OK && text(v) == text(u) {
				t.Fatalf("%q: brackets at %d and %d can be left out", s, i, j)
			}
		}
		for _, e := range u.Args {
			s, err := read.PrintExp(e)
			if x, err2 := read.Exp(s); err != api.OK || err2 != api.OK || expText(x) != expText(e) {
				t.Fatalf("%q: errors %d, %d", s, err, err2)
			}
		}
	})
	if pairs < 500 {
		t.Error(pairs)
	}
}

// brackets returns the pairs of brackets that are no list of a name.
func brackets(l []string) map[int]int {
	pairs := map[int]int{}
	var open []int
	for i, s := range l {
		switch s {
		case "(":
			open = append(open, i)
		case ")":
			from := open[len(open)-1]
			open = open[:len(open)-1]
			if from == 0 || !isName(l[from-1]) {
				pairs[from] = i
			}
		}
	}
	return pairs
}

// TestOtherBytes: a byte that no source has is refused wherever it is put in, and
// what is not refused has the tokens of what it is read as.
func TestOtherBytes(t *testing.T) {
	m := newMaker(9)
	for range 300 {
		u, e := read.Parse(strings.Join(m.process(40), " "))
		if e != api.OK {
			continue
		}
		s, _ := read.Print(u)
		for at := range len(s) + 1 {
			c := byte(m.IntN(256))
			other := s[:at] + string([]byte{c}) + s[at:]
			v, e := read.Parse(other)
			_, err := read.Spots(other)
			if e != err {
				t.Fatalf("%q: errors %d, %d", other, e, err)
			}
			if strings.IndexByte("abcdefghijklmnopqrstuvwxyz0123456789~(){},;|&=<+-* \t\n", c) < 0 && e != api.ErrText {
				t.Fatalf("%q: error %d", other, e)
			}
			if e != api.OK {
				continue
			}
			again, _ := read.Print(v)
			if n, _ := term.Nodes(v); n < 1 || !slices.Equal(plain(cut(t, again)), plain(cut(t, other))) {
				t.Fatalf("%q is read as %q", other, again)
			}
		}
	}
}

// plain leaves out the tokens that may be brackets.
func plain(l []string) []string {
	return slices.DeleteFunc(slices.Clone(l), func(s string) bool { return s == "(" || s == ")" })
}
