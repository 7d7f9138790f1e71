package term_test

import (
	"slices"
	"strings"
	"testing"

	"cabotage/api"
	"cabotage/term"
)

// P1.5

func TestCanon(t *testing.T) {
	for i, c := range []struct{ u, want api.Term }{
		{none, none},
		{send("y", "x"), send("y", "x")},
		{example("x", "y", "p", "a", "b"), example("a", "c", "d", "e", "b")},
		{def(send("x"), rule(none, join("x"))), def(send("a"), rule(none, join("a")))},
		// Channels before places; what is bound outside before what is bound inside.
		{def(def(send("z"), rule(send("z"), join("z"))), place("q", none), rule(send("n", "m"), join("y", "m"), join("x", "n"))),
			def(def(send("f"), rule(send("f"), join("f"))), place("c", none), rule(send("e", "d"), join("a", "d"), join("b", "e")))},
		// The same name, bound twice, becomes two; names that are free are left out.
		{par(def(send("x", "a"), rule(none, join("x", "b"))), def(send("x", "c"), rule(none, join("x", "x")))),
			par(def(send("b", "a"), rule(none, join("b", "d"))), def(send("e", "c"), rule(none, join("e", "f"))))},
		{def(none, rule(def(send("x"), rule(send("x"), join("x", "x"))), join("x", "x"))),
			def(none, rule(def(send("c"), rule(send("d"), join("c", "d"))), join("a", "b")))},
		// Defs of a place before what is in it, Defs before the Kid.
		{def(def(none, place("k", none)), place("p", def(none, place("r", none)), rule(none, join("x", "v")))),
			def(def(none, place("e", none)), place("b", def(none, place("d", none)), rule(none, join("a", "c"))))},
	} {
		if v, e := term.Canon(c.u); e != api.OK || !same(v, c.want) {
			t.Error(i, text(v, nil), e)
		}
	}
}

// TestCanonMany: so many names are bound that two letters and the keywords among them are reached.
func TestCanonMany(t *testing.T) {
	body := none
	names := strings.Fields("a b c d e f g h i j k l")
	for range 5 {
		body = def(body, rule(none, join("a", names[:3]...), join("b", names[3:6]...), join("c", names[6:9]...)), rule(none, join("d", names[:3]...)), rule(none, join("e", names[:3]...)))
	}
	v, e := term.Canon(body)
	if e != api.OK {
		t.Fatal(e)
	}
	seen := bindings(v)
	var want []string
	for range seen {
		want = append(want, term.Fresh(want))
	}
	slices.SortFunc(seen, func(a, b string) int {
		if len(a) != len(b) {
			return len(a) - len(b)
		}
		return strings.Compare(a, b)
	})
	if len(seen) != 100 || !slices.Equal(seen, want) {
		t.Error(seen)
	}
}

// bindings lists the names that TermDefs bind by rules, and rules bind.
func bindings(u api.Term) []string {
	var l []string
	for _, c := range u.Defs {
		for _, m := range c.Joins {
			l = append(append(l, m.Text), m.Names...)
		}
	}
	for _, k := range u.Kids {
		l = append(l, bindings(k)...)
	}
	return l
}

func TestAlike(t *testing.T) {
	u := example("x", "y", "p", "a", "b")
	inside := func(a, b string) api.Term {
		return def(none, rule(send(a, b), join("x", "a"), join("y", "b")))
	}
	for i, c := range []struct {
		a, b api.Term
		want bool
	}{
		{u, u, true},
		{u, example("u", "v", "w", "x", "b"), true},
		{u, example("y", "x", "p", "a", "b"), true},
		{u, example("a", "y", "p", "x", "b"), true},
		{u, example("x", "y", "p", "x", "b"), true}, // the Name x hides the channel
		{u, example("x", "y", "p", "a", "c"), false},
		{u, example("x", "y", "p", "b", "b"), false}, // b is caught
		{u, none, false},
		{none, api.Term{Op: api.TermStop}, false},
		{send("x"), send("y"), false},
		{send("x", "a"), send("x", "a", "a"), false},
		{bring("x", num(1)), bring("x", num(2)), false},
		{bring("x", exp(api.TermAdd, num(1), num(2))), bring("x", exp(api.TermSub, num(1), num(2))), false},
		{bring("x", exp(api.TermAdd, num(1), num(2))), bring("x", exp(api.TermAdd, num(2), num(1))), false},
		{par(none, send("x")), par(send("x"), none), false},
		{travel("p", none), watch("p", none), false},
		{inside("a", "b"), inside("b", "a"), false},
		{inside("x", "b"), inside("y", "b"), false},
		{inside("a", "b"), def(none, rule(send("c", "d"), join("x", "c"), join("y", "d"))), true},
		{inside("z", "b"), def(none, rule(send("z", "d"), join("x", "c", "e"), join("y", "d"))), false},
		{inside("z", "b"), def(none, rule(send("z", "d"), join("x", "c"), join("y", "d")), rule(none, join("x", "c"))), false},
		{def(none, place("p", none)), def(none, place("q", none)), true},
		{def(none, rule(none, join("x"), join("y"))), def(none, rule(none, join("x", "y"))), false},
		{def(none, rule(none, join("x"), join("y"))), def(none, rule(none, join("x"))), false},
		{def(none, rule(none, join("x", "a"))), def(none, rule(none, join("x"))), false},
		{def(none, rule(none, join("x")), rule(none, join("y"))), def(none, rule(none, join("x")), rule(none, join("x"))), false},
		{def(none, rule(none, join("x", "a"), join("y", "b", "c"))), def(none, rule(none, join("x", "a", "b"), join("y", "c"))), false},
		{def(none, place("p", none, place("q", none))), def(none, place("p", none), place("q", none)), false},
		{def(none, rule(none, join("p"))), def(none, place("p", none)), false},
		{def(send("x"), rule(none, join("x"), join("y"))), def(send("y"), rule(none, join("x"), join("y"))), false},
		{def(send("x"), rule(none, join("x"), join("y"))), def(send("y"), rule(none, join("y"), join("x"))), true},
	} {
		if is, e := term.Alike(c.a, c.b); is != c.want || e != api.OK {
			t.Error(i, is, e)
		}
		if is, e := term.Alike(c.b, c.a); is != c.want || e != api.OK {
			t.Error(i, is, e)
		}
	}
}

// TestAlikeByChance: processes are alike just if they are equal without names;
// what is alike has the same free names, nodes and depth.
func TestAlikeByChance(t *testing.T) {
	as := func(s string) string { return s }
	var last api.Term = none
	formed(t, 6, func(m *maker, u api.Term) {
		c, e := term.Canon(u)
		if e != api.OK || nameless(u, as) != nameless(c, as) {
			t.Fatal(text(u, nil), text(c, nil))
		}
		if d, e := term.Canon(c); e != api.OK || !same(c, d) {
			t.Fatal(text(c, nil), text(d, nil))
		}
		if is, e := term.Alike(u, c); !is || e != api.OK {
			t.Fatal(text(u, nil))
		}
		sameSizes(t, u, c)
		if is, e := term.Alike(u, last); is != (nameless(u, as) == nameless(last, as)) || e != api.OK {
			t.Fatal(text(u, nil), text(last, nil))
		}
		last = u
	})
}

func sameSizes(t *testing.T, u, v api.Term) {
	t.Helper()
	a, _ := term.Free(u)
	b, _ := term.Free(v)
	n, _ := term.Nodes(u)
	o, _ := term.Nodes(v)
	d, _ := term.Depth(u)
	f, _ := term.Depth(v)
	if !slices.Equal(a, b) || n != o || d != f {
		t.Fatal(text(u, nil), text(v, nil))
	}
}

// P1.6

func TestParts(t *testing.T) {
	x, y, z := send("x"), send("y"), send("z")
	inside := travel("p", par(x, par(none, y)))
	for i, c := range []struct {
		u    api.Term
		want []api.Term
	}{
		{none, nil},
		{par(none, none), nil},
		{x, []api.Term{x}},
		{api.Term{Op: api.TermStop}, []api.Term{{Op: api.TermStop}}},
		{par(none, par(x, y)), []api.Term{x, y}},
		{par(par(x, par(none, y)), par(z, x)), []api.Term{x, y, z, x}},
		{inside, []api.Term{inside}},
		{par(inside, x), []api.Term{inside, x}},
	} {
		if l, e := term.Parts(c.u); e != api.OK || !slices.EqualFunc(l, c.want, same) {
			t.Error(i, l, e)
		}
	}
}

func TestBeside(t *testing.T) {
	x, y, z := send("x"), send("y"), send("z")
	for i, c := range []struct {
		l    []api.Term
		want api.Term
		err  api.Errno
	}{
		{nil, none, api.OK},
		{[]api.Term{}, none, api.OK},
		{[]api.Term{x}, x, api.OK},
		{[]api.Term{par(none, x)}, par(none, x), api.OK},
		{[]api.Term{x, y}, par(x, y), api.OK},
		{[]api.Term{x, none, y}, par(x, par(none, y)), api.OK},
		{[]api.Term{par(x, y), z}, par(par(x, y), z), api.OK},
		{slices.Repeat([]api.Term{x}, 13), api.Term{}, api.ErrLong},       // the depth
		{slices.Repeat([]api.Term{wide(29)}, 3), api.Term{}, api.ErrLong}, // the nodes
		{[]api.Term{x, deep(api.TermDepth)}, api.Term{}, api.ErrLong},
		{[]api.Term{deep(api.TermDepth)}, deep(api.TermDepth), api.OK},
		{slices.Repeat([]api.Term{none}, api.TermNodes), api.Term{}, api.ErrLong},
		{slices.Repeat([]api.Term{none}, api.TermNodes+1), api.Term{}, api.ErrLong},
		{slices.Repeat([]api.Term{x}, 100000), api.Term{}, api.ErrLong},
		{[]api.Term{x, {}}, api.Term{}, api.ErrArg},
		{append(slices.Repeat([]api.Term{x}, 100), api.Term{}), api.Term{}, api.ErrArg}, // before ErrLong
	} {
		if u, e := term.Beside(c.l); e != c.err || !same(u, c.want) {
			t.Error(i, text(u, nil), e)
		}
	}
	if u, e := term.Beside(slices.Repeat([]api.Term{x}, 12)); e != api.OK {
		t.Error(u, e)
	}
}

func TestLayout(t *testing.T) {
	x, y, z := send("x"), send("y"), send("z")
	for i, c := range []struct{ u, want api.Term }{
		{none, none},
		{x, x},
		{par(none, none), none},
		{par(none, x), x},
		{par(par(x, none), y), par(x, y)},
		{par(par(x, y), z), par(x, par(y, z))},
		{par(x, par(y, z)), par(x, par(y, z))},
		{travel("p", par(par(x, par(none, y)), z)), travel("p", par(x, par(y, z)))},
		{watch("p", par(x, none)), watch("p", x)},
		{when(name("b"), par(none, x), par(par(x, y), z)), when(name("b"), x, par(x, par(y, z)))},
		{par(travel("p", par(none, x)), none), travel("p", x)},
		{def(par(none, x), rule(par(y, none), join("x", "a"), join("y")), place("p", par(par(x, y), z), rule(par(none, none), join("z")))),
			def(x, rule(y, join("x", "a"), join("y")), place("p", par(x, par(y, z)), rule(none, join("z"))))},
		{par(par(none, par(none, none)), travel("p", travel("q", par(none, none)))), travel("p", travel("q", none))},
		{def(none, rule(none, join("x"))), def(none, rule(none, join("x")))},
	} {
		if v, e := term.Layout(c.u); e != api.OK || !same(v, c.want) {
			t.Error(i, text(v, nil), e)
		}
	}
	if u, e := term.Layout(wide(23)); e != api.OK || !same(u, beside12(x)) { // 12 messages
		t.Error(u, e)
	}
	for i, u := range []api.Term{wide(25), travel("p", wide(23)), def(none, rule(wide(25), join("y")))} {
		if v, e := term.Layout(u); e != api.ErrLong || !same(v, api.Term{}) {
			t.Error(i, v, e)
		}
	}
}

func beside12(x api.Term) api.Term {
	u := x
	for range 11 {
		u = par(x, u)
	}
	return u
}

func TestLayoutByChance(t *testing.T) {
	formed(t, 7, func(m *maker, u api.Term) {
		v, e := term.Layout(u)
		if e == api.ErrLong {
			return
		}
		w, f := term.Layout(v)
		a, _ := term.Free(u)
		b, _ := term.Free(v)
		if e != api.OK || f != api.OK || !same(v, w) || !slices.Equal(a, b) {
			t.Fatal(text(u, nil), text(v, nil), text(w, nil))
		}
		l, e := term.Parts(v)
		together, f := term.Beside(l)
		if e != api.OK || f != api.OK || !same(v, together) {
			t.Fatal(text(v, nil))
		}
		inner := func(u api.Term) bool { return u.Op == api.TermPar || u.Op == api.TermNil }
		if slices.ContainsFunc(l, inner) {
			t.Fatal(text(v, nil))
		}
	})
}
