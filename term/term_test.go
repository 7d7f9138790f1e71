package term_test

import (
	"slices"
	"strings"
	"testing"

	"cabotage/api"
	"cabotage/term"
)

// P1.1

func TestName(t *testing.T) {
	for _, s := range strings.Fields("a z az abcdefgh let ands iff stopp thens wat") {
		if !term.Name(s) {
			t.Errorf("%q is a name", s)
		}
	}
	no := strings.Fields("and def else go if in place stop then watch abcdefghi A aB Go a1 1 _ a_ é ` { @ [")
	for _, s := range append(no, "", " ", "a ", " a", "a\x00", "\xff", "a\xff", strings.Repeat("a", 1<<20)) {
		if term.Name(s) {
			t.Errorf("%q is no name", s)
		}
	}
}

func TestFresh(t *testing.T) {
	var one, two []string
	for c := byte('a'); c <= 'z'; c++ {
		one = append(one, string([]byte{c}))
	}
	for _, c := range one {
		for _, d := range one {
			two = append(two, c+d)
		}
	}
	tillIe := two[:slices.Index(two, "ie")+1]
	for i, x := range []struct {
		l    []string
		want string
	}{
		{nil, "a"},
		{[]string{}, "a"},
		{[]string{"a", "c"}, "b"},
		{[]string{"c", "b", "a", "a"}, "d"},
		{[]string{"", "A", "aa", "é", "abcdefghi"}, "a"},
		{one, "aa"},
		{slices.Concat(one, []string{"ab"}), "aa"},
		{slices.Concat(one, tillIe), "ig"}, // if is a keyword
		{slices.Concat(one, tillIe, []string{"ig", "ih", "ii", "ij", "ik", "il", "im"}), "io"}, // and in
		{slices.Concat(one, two), "aaa"},
		{slices.Concat(two, one, []string{"aaa", "aab"}), "aac"},
	} {
		if s := term.Fresh(x.l); s != x.want {
			t.Errorf("%d: %q, not %q", i, s, x.want)
		}
	}
}

// TestFreshInTurn: names that are none of those before them come by length, then sorted, without keywords.
func TestFreshInTurn(t *testing.T) {
	var l []string
	for range 800 {
		s := term.Fresh(l)
		if n := len(l); !term.Name(s) || n > 0 && (len(s) < len(l[n-1]) || len(s) == len(l[n-1]) && s <= l[n-1]) {
			t.Fatalf("%q behind %q", s, l[n-1])
		}
		l = append(l, s)
	}
	if l[701-3] != "zz" { // 26 + 26 * 26 strings, without go, if and in
		t.Error(l[690:])
	}
}

// P1.2

func TestFormed(t *testing.T) {
	x := send("x")
	five := []api.TermClause{rule(none, join("a")), rule(none, join("b")), rule(none, join("c")), rule(none, join("d")), place("p", none)}
	for i, u := range []api.Term{
		none,
		{Op: api.TermStop},
		{Op: api.TermNil, Args: []api.TermExp{}, Defs: []api.TermClause{}, Kids: []api.Term{}},
		x,
		bring("x", num(api.TermMost), num(-api.TermMost), num(0)),
		bring("x", exp(api.TermAdd, num(1), name("y")), exp(api.TermSub, num(1), num(2)), exp(api.TermMul, num(1), num(2))),
		bring("x", exp(api.TermLess, num(1), name("y")), exp(api.TermSame, num(1), num(2))),
		par(x, none),
		when(num(1), x, x),
		travel("p", x),
		watch("p", x),
		deep(api.TermDepth),
		wide(api.TermNodes - 1),
		travel("p", wide(api.TermNodes-1)),
		def(x, five...),
		def(x, place("p", none, five[:4]...)),
		def(x, place("p", none, append(slices.Clone(five[:4]), place("q", none))...)),
		def(x, rule(none, join("x", "a", "b", "c"), join("y", "d", "e", "f"), join("z", "g", "h", "i"))),
		def(x, rule(none, join("x", "x"))),
		def(x, rule(none, join("x", "y"), join("y", "x"))),
		def(x, rule(none, join("x", "a")), rule(none, join("y"), join("x", "b"))),
		def(x, place("p", none, rule(none, join("x")), rule(none, join("x"), join("y")))),
		def(def(x, rule(none, join("x", "a")), place("p", none)), rule(none, join("x")), place("p", none)),
		def(x, rule(def(x, rule(none, join("x", "a"))), join("x"))),
		def(x, place("p", def(x, rule(none, join("x")), place("p", none)))),
		example("x", "y", "p", "a", "b"),
	} {
		if e := term.Check(u); e != api.OK {
			t.Error(i, e)
		}
		if n, e := term.Nodes(u); n < 1 || n > api.TermNodes || e != api.OK {
			t.Error(i, n, e)
		}
	}
}

// unformed lists processes that are not formed.
func unformed() []api.Term {
	x := send("x")
	kids := []api.Term{x}
	one := []api.TermExp{num(1)}
	rules := []api.TermClause{rule(none, join("x"))}
	six := []api.TermClause{rule(none, join("a")), rule(none, join("b")), rule(none, join("c")), rule(none, join("d")), place("q", none), place("r", none)}
	with := func(u api.Term, f func(*api.Term)) api.Term { f(&u); return u }
	define := func(c api.TermClause, f func(*api.TermClause)) api.Term { f(&c); return def(x, c) }
	return []api.Term{
		{}, {Op: -1}, {Op: 9}, {Op: 1 << 40},
		{Op: api.TermNil, Text: "x"}, {Op: api.TermNil, Args: one}, {Op: api.TermNil, Defs: rules}, {Op: api.TermNil, Kids: kids},
		{Op: api.TermStop, Text: "x"}, {Op: api.TermStop, Args: one}, {Op: api.TermStop, Defs: rules}, {Op: api.TermStop, Kids: kids},
		send(""), send("go"), send("abcdefghi"), send("X"), send("x", "a", "b", "c", "d"), send("x", "in"), send("x", ""),
		{Op: api.TermSend, Text: "x", Defs: rules}, {Op: api.TermSend, Text: "x", Kids: kids},
		with(par(x, x), func(u *api.Term) { u.Text = "x" }), with(par(x, x), func(u *api.Term) { u.Args = one }),
		with(par(x, x), func(u *api.Term) { u.Defs = rules }), {Op: api.TermPar}, {Op: api.TermPar, Kids: kids},
		{Op: api.TermPar, Kids: []api.Term{x, x, x}}, par(x, api.Term{}), par(api.Term{}, x),
		def(x), def(x, six...), {Op: api.TermDef, Defs: rules}, {Op: api.TermDef, Defs: rules, Kids: []api.Term{x, x}},
		with(def(x, rules...), func(u *api.Term) { u.Text = "x" }), with(def(x, rules...), func(u *api.Term) { u.Args = one }),
		{Op: api.TermIf, Kids: []api.Term{x, x}}, {Op: api.TermIf, Args: []api.TermExp{num(1), num(1)}, Kids: []api.Term{x, x}},
		{Op: api.TermIf, Args: one, Kids: kids}, with(when(num(1), x, x), func(u *api.Term) { u.Text = "x" }),
		with(when(num(1), x, x), func(u *api.Term) { u.Defs = rules }), when(api.TermExp{}, x, x),
		travel("", x), travel("stop", x), {Op: api.TermGo, Text: "p"}, {Op: api.TermGo, Text: "p", Kids: []api.Term{x, x}},
		with(travel("p", x), func(u *api.Term) { u.Args = one }), with(travel("p", x), func(u *api.Term) { u.Defs = rules }),
		watch("", x), watch("p1", x), {Op: api.TermWatch, Text: "p"}, with(watch("p", x), func(u *api.Term) { u.Args = one }),
		deep(api.TermDepth + 1), wide(api.TermNodes + 1), par(deep(api.TermDepth), none),
		define(rules[0], func(c *api.TermClause) { c.Form = 0 }), define(rules[0], func(c *api.TermClause) { c.Form = 3 }),
		define(rules[0], func(c *api.TermClause) { c.Text = "p" }), define(rules[0], func(c *api.TermClause) { c.Defs = rules }),
		define(rules[0], func(c *api.TermClause) { c.Kids = nil }), define(rules[0], func(c *api.TermClause) { c.Kids = []api.Term{x, x} }),
		def(x, rule(none)), def(x, rule(none, join("x"), join("y"), join("z"), join("u"))), def(x, rule(none, join("x"), join("x"))),
		def(x, rule(none, join(""))), def(x, rule(none, join("if"))), def(x, rule(none, join("x", "a", "b", "c", "d"))),
		def(x, rule(none, join("x", "a", "a"))), def(x, rule(none, join("x", "a"), join("y", "a"))), def(x, rule(none, join("x", "then"))),
		def(x, rule(none, join("x", ""))), def(x, rule(api.Term{}, join("x"))),
		define(place("p", x), func(c *api.TermClause) { c.Text = "" }), define(place("p", x), func(c *api.TermClause) { c.Text = "place" }),
		define(place("p", x), func(c *api.TermClause) { c.Joins = []api.TermMsg{join("x")} }), define(place("p", x), func(c *api.TermClause) { c.Kids = nil }),
		define(place("p", x), func(c *api.TermClause) { c.Kids = []api.Term{x, x} }), def(x, place("p", none, six...)),
		def(x, rule(none, join("x")), rule(none, join("x", "a"))), def(x, rule(none, join("y"), join("x", "a")), rule(none, join("x"))),
		def(x, place("p", none, rule(none, join("x")), rule(none, join("x", "a")))),
		def(x, rule(none, join("x")), place("p", none, rule(none, join("x")))),
		def(x, place("p", none, rule(none, join("x"))), rule(none, join("x"))),
		def(x, place("p", none, rule(none, join("x"))), place("q", none, rule(none, join("x")))),
		def(x, place("p", none, rule(none, join("x")), place("q", none, rule(none, join("x"))))),
		def(x, place("p", none), place("p", none)), def(x, place("p", none, place("p", none))),
		def(x, place("p", none, place("q", none)), place("q", none)),
		def(x, place("x", none), rule(none, join("x"))), def(x, rule(none, join("x")), place("x", none)),
		def(x, place("p", none, rule(none, join("p")))), def(x, place("p", none, place("q", none, rule(none, join("p"))))),
		def(x, rule(def(x, rule(none, join("x")), rule(none, join("x", "a"))), join("y"))),
		def(x, place("p", travel("p", def(x, place("r", none), place("r", none))))),
	}
}

func TestUnformed(t *testing.T) {
	for i, u := range unformed() {
		if e := term.Check(u); e != api.ErrArg {
			t.Error(i, e, text(u, nil))
		}
		n, e := term.Nodes(u)
		d, f := term.Depth(u)
		if n != 0 || d != 0 || e != api.ErrArg || f != api.ErrArg {
			t.Error(i, n, d, e, f)
		}
	}
}

func TestCheckExp(t *testing.T) {
	long, full := num(1), num(1)
	for range api.TermDepth - 1 {
		long = exp(api.TermAdd, long, num(1))
	}
	for range 4 {
		full = exp(api.TermMul, full, full) // 31 nodes
	}
	small := exp(api.TermSub, num(1), exp(api.TermSub, num(1), num(1)))
	most := exp(api.TermLess, exp(api.TermSame, full, small), exp(api.TermSub, num(1), exp(api.TermSub, num(1), name("x"))))
	for i, e := range []api.TermExp{num(0), num(api.TermMost), num(-api.TermMost), name("x"), exp(api.TermSame, num(1), name("x")), long, most, {Op: api.TermInt, Kids: []api.TermExp{}}} {
		if err := term.CheckExp(e); err != api.OK {
			t.Error(i, err)
		}
	}
	for i, e := range []api.TermExp{{}, {Op: -1}, {Op: 8}, num(api.TermMost + 1), num(-api.TermMost - 1), num(1 << 62),
		name(""), name("def"), name("abcdefghi"), name("é"), {Op: api.TermName, Text: "x", N: 1}, {Op: api.TermName, Text: "x", Kids: []api.TermExp{num(1)}},
		{Op: api.TermInt, Text: "x"}, {Op: api.TermInt, Kids: []api.TermExp{num(1)}}, exp(api.TermAdd), exp(api.TermSub, num(1)),
		exp(api.TermMul, num(1), num(1), num(1)), {Op: api.TermLess, N: 1, Kids: []api.TermExp{num(1), num(1)}},
		{Op: api.TermSame, Text: "x", Kids: []api.TermExp{num(1), num(1)}}, exp(api.TermSame, num(1), api.TermExp{}),
		exp(api.TermSame, num(api.TermMost+1), num(1)), exp(api.TermAdd, num(1), long), exp(api.TermAdd, full, full)} {
		if err := term.CheckExp(e); err != api.ErrArg {
			t.Error(i, err)
		}
		if err := term.Check(bring("x", e)); err != api.ErrArg {
			t.Error(i, err)
		}
	}
	if e := term.Check(bring("x", long)); e != api.ErrArg { // its depth counts in the process
		t.Error(e)
	}
}

func TestNodesDepth(t *testing.T) {
	for i, x := range []struct {
		u            api.Term
		nodes, depth int
	}{
		{none, 1, 1},
		{send("x", "a", "b"), 3, 2},
		{bring("x", exp(api.TermAdd, num(1), exp(api.TermAdd, num(1), num(2)))), 6, 4},
		{when(num(1), none, travel("p", none)), 5, 3},
		{def(none, rule(none, join("x", "a", "b"), join("y"))), 4, 3},
		{def(none, place("p", none, place("q", none, rule(send("x", "y"), join("x", "y"))))), 9, 6},
		{deep(api.TermDepth), api.TermDepth, api.TermDepth},
		{wide(59), 59, 6},
		{travel("p", wide(59)), 60, 7},
		{example("x", "y", "p", "a", "b"), 13, 5},
	} {
		n, e := term.Nodes(x.u)
		d, f := term.Depth(x.u)
		if n != x.nodes || d != x.depth || e != api.OK || f != api.OK {
			t.Error(i, n, d, e, f)
		}
	}
}

// P1.3

func TestFree(t *testing.T) {
	for i, x := range []struct {
		u    api.Term
		want string
	}{
		{none, ""},
		{example("x", "y", "p", "a", "b"), "b q z"},
		{bring("z", exp(api.TermAdd, name("y"), name("x")), name("y")), "x y z"},
		{par(watch("ab", send("b")), travel("a", send("aa"))), "a aa ab b"},
		{when(name("x"), send("y"), send("x")), "x y"},
		{def(send("x", "y"), rule(send("x", "y", "a"), join("x", "a", "b"))), "y"},
		{def(send("a"), rule(none, join("x", "a"))), "a"},                                     // a is bound in the body alone
		{par(send("x"), def(none, rule(none, join("x")))), "x"},                               // free beside, bound within
		{def(none, rule(send("x"), join("y", "x"))), ""},                                      // a Name is a channel in the body
		{def(none, rule(send("y"), join("y")), place("p", send("y"))), ""},                    // a TermDef binds in its Defs
		{def(send("y"), place("p", travel("q", none), rule(send("q", "p"), join("y")))), "q"}, // rules in a place define channels everywhere
		{def(none, rule(def(send("b"), rule(send("a", "c"), join("b"))), join("x", "a"))), "c"},
		{def(watch("q", send("q")), place("p", none, place("q", none))), ""},
	} {
		l, e := term.Free(x.u)
		if e != api.OK || !slices.Equal(l, strings.Fields(x.want)) {
			t.Error(i, l, e)
		}
	}
}

func TestDefines(t *testing.T) {
	for i, x := range []struct {
		u                api.Term
		channels, places string
	}{
		{example("x", "y", "p", "a", "b"), "x y", "p"},
		{def(none, place("p", none)), "", "p"},
		{def(none, rule(none, join("b", "a"), join("a")), rule(none, join("c"), join("b", "a"))), "b a c", ""},
		{def(none, place("r", none, rule(none, join("b")), place("s", none, rule(none, join("c")))), rule(none, join("a")), place("q", none, rule(none, join("d"), join("e")))), "a b c d e", "r s q"},
		{def(none, place("r", none, place("s", none, rule(none, join("x"))), rule(none, join("y"))), place("q", none, rule(none, join("z")))), "y x z", "r s q"},
		{def(def(none, rule(none, join("y"))), rule(def(none, rule(none, join("z"))), join("x")), place("p", def(none, place("q", none)))), "x", "p"},
	} {
		c, p, e := term.Defines(x.u)
		if e != api.OK || !slices.Equal(c, strings.Fields(x.channels)) || !slices.Equal(p, strings.Fields(x.places)) {
			t.Error(i, c, p, e)
		}
	}
	for i, u := range []api.Term{none, {Op: api.TermStop}, send("x"), par(none, none), travel("p", def(none, place("p", none)))} {
		if c, p, e := term.Defines(u); c != nil || p != nil || e != api.ErrNone {
			t.Error(i, c, p, e)
		}
	}
	if c, p, e := term.Defines(def(none)); c != nil || p != nil || e != api.ErrArg { // ErrArg comes first
		t.Error(c, p, e)
	}
}
