package term_test

import (
	"slices"
	"testing"

	"cabotage/api"
	"cabotage/term"
)

// P1.4

func TestPut(t *testing.T) {
	u := example("x", "y", "p", "a", "b")
	sum := exp(api.TermAdd, name("a"), name("b"))
	for i, c := range []struct {
		u    api.Term
		x    string
		e    api.TermExp
		want api.Term
	}{
		{u, "b", name("q"), example("x", "y", "p", "a", "q")},
		{u, "b", name("x"), example("c", "y", "p", "a", "x")},
		{u, "b", name("a"), example("x", "y", "p", "c", "a")},
		{u, "b", name("p"), example("x", "y", "c", "a", "p")},
		{u, "w", name("x"), u}, // w is not free: nothing makes way
		{u, "x", num(1), u},    // x is bound
		{u, "p", sum, u},
		{u, "q", name("r"), def(par(send("y"), watch("p", none)), rule(send("z", "a", "b"), join("x", "a"), join("y")), place("p", travel("r", bring("x", num(1)))))},
		{send("x", "x", "y"), "x", name("y"), send("y", "y", "y")},
		{send("x", "y"), "y", sum, bring("x", sum)},
		{send("x", "x"), "x", name("x"), send("x", "x")},
		{bring("z", exp(api.TermLess, name("x"), name("y"))), "x", num(3), bring("z", exp(api.TermLess, num(3), name("y")))},
		{bring("z", name("x")), "x", exp(api.TermAdd, name("x"), num(1)), bring("z", exp(api.TermAdd, name("x"), num(1)))}, // x again, but once
		{when(name("x"), send("x"), watch("x", travel("x", none))), "x", name("y"), when(name("y"), send("y"), watch("y", travel("y", none)))},
		// Only what binds around the name makes way.
		{def(send("b"), rule(send("x"), join("y", "x"))), "b", name("x"), def(send("x"), rule(send("x"), join("y", "x")))},
		{par(send("b"), def(send("x"), rule(none, join("x")))), "b", name("x"), par(send("x"), def(send("x"), rule(none, join("x"))))},
		{def(none, rule(send("a", "b"), join("y", "a")), rule(send("a"), join("y", "a"))), "b", name("a"), def(none, rule(send("c", "a"), join("y", "c")), rule(send("a"), join("y", "a")))},
		// Names that are bound again within stay: there b is another one.
		{def(send("b"), rule(def(send("a", "b"), rule(none, join("b", "a"))), join("y", "b"))), "b", name("a"), def(send("a"), rule(def(send("a", "b"), rule(none, join("b", "a"))), join("y", "b")))},
		{par(send("b"), def(send("x", "b"), rule(none, join("x", "b")), rule(send("x"), join("b")))), "b", name("x"), par(send("x"), def(send("x", "b"), rule(none, join("x", "b")), rule(send("x"), join("b"))))},
		{def(send("b"), rule(def(send("a", "b"), rule(none, join("a", "c"))), join("y", "b"))), "b", name("a"), def(send("a"), rule(def(send("a", "b"), rule(none, join("a", "c"))), join("y", "b")))},
		// A name that is bound twice makes way twice, where its binding does.
		{def(send("x"), rule(send("x", "b"), join("x", "x"))), "b", name("x"), def(send("a"), rule(send("c", "x"), join("a", "c")))},
		{def(send("x", "b"), rule(send("x"), join("x", "x"))), "b", name("x"), def(send("a", "x"), rule(send("x"), join("a", "x")))},
	} {
		if v, e := term.Put(c.u, c.x, c.e); e != api.OK || !same(v, c.want) {
			t.Error(i, text(v, nil), e)
		}
	}
}

// TestPutChoice: in which order names make way, and what they become.
func TestPutChoice(t *testing.T) {
	three := exp(api.TermAdd, name("p"), exp(api.TermAdd, name("y"), name("x")))
	for i, c := range []struct {
		u    api.Term
		x    string
		e    api.TermExp
		want api.Term
	}{
		// Channels come before places, and each by its order in the process.
		{def(bring("z", name("w")), place("p", none), rule(none, join("y")), rule(none, join("x"))), "w", three,
			def(bring("z", three), place("c", none), rule(none, join("a")), rule(none, join("b")))},
		// The Names of a rule in their order.
		{def(none, rule(send("w"), join("u", "y", "x"), join("v", "p"))), "w", name("y"), def(none, rule(send("y"), join("u", "a", "x"), join("v", "p")))},
		{def(none, rule(bring("z", name("w"), name("x"), name("p")), join("u", "y", "x"), join("v", "p"))), "w", three,
			def(none, rule(bring("z", three, name("b"), name("c")), join("u", "a", "b"), join("v", "c")))},
		// From outside inwards; a rule with all that is within it before the next one.
		{def(none,
			rule(def(send("w"), rule(none, join("x"))), join("u", "x")),
			rule(send("w"), join("v", "x"))), "w", name("x"),
			def(none,
				rule(def(send("x"), rule(none, join("b"))), join("u", "a")),
				rule(send("x"), join("v", "c")))},
		{par(def(def(send("w"), rule(none, join("x"))), rule(send("x"), join("x"))), def(send("w"), place("x", none))), "w", name("x"),
			par(def(def(send("x"), rule(none, join("b"))), rule(send("a"), join("a"))), def(send("x"), place("c", none)))},
		// Defs come before the Kid, those of a place before what is in it.
		{def(def(send("w"), rule(none, join("x"))), place("q", def(send("w"), rule(none, join("x"))), rule(send("w"), join("u", "x")))), "w", name("x"),
			def(def(send("x"), rule(none, join("c"))), place("q", def(send("x"), rule(none, join("b"))), rule(send("x"), join("u", "a"))))},
		// What is chosen is free in nothing that is put, nor x, nor anywhere in the process: bound, a Name, a place or a channel that stands nowhere else.
		{def(send("w", "d"), rule(none, join("x", "a")), place("c", none), rule(none, join("b"))), "w", name("x"),
			def(send("x", "d"), rule(none, join("e", "a")), place("c", none), rule(none, join("b")))},
		{def(send("z", "a"), rule(none, join("x"))), "a", name("x"), def(send("z", "x"), rule(none, join("b")))},
		{def(send("z", "w"), rule(none, join("x"))), "w", exp(api.TermAdd, name("a"), name("x")),
			def(bring("z", exp(api.TermAdd, name("a"), name("x"))), rule(none, join("b")))},
		// All places of a definition follow, in Joins of every rule and of places within places.
		{def(send("x", "w"), rule(send("x"), join("x", "k")), rule(none, join("x", "k"), join("y")), place("p", send("x"), place("q", watch("p", send("x"))))), "w", exp(api.TermMul, name("x"), name("p")),
			def(bring("a", exp(api.TermMul, name("x"), name("p"))), rule(send("a"), join("a", "k")), rule(none, join("a", "k"), join("y")), place("b", send("a"), place("q", watch("b", send("a")))))},
		{def(send("z", "w"), place("p", none, rule(send("x"), join("x")), place("q", send("x")))), "w", name("q"),
			def(send("z", "q"), place("p", none, rule(send("x"), join("x")), place("a", send("x"))))},
	} {
		if v, e := term.Put(c.u, c.x, c.e); e != api.OK || !same(v, c.want) {
			t.Error(i, text(v, nil), e)
		}
	}
}

func TestPutErrors(t *testing.T) {
	u := example("x", "y", "p", "a", "b")
	long := exp(api.TermAdd, num(1), num(1))
	tail := bring("x", name("b"))
	for range api.TermDepth - 2 {
		tail = travel("p", tail)
	}
	many := par(send("x", "b", "b", "b"), par(send("x", "b", "b", "b"), send("x", "b", "b", "b")))
	nine := exp(api.TermAdd, long, exp(api.TermAdd, long, num(1)))
	for i, c := range []struct {
		u    api.Term
		x    string
		e    api.TermExp
		want api.Errno
	}{
		{api.Term{}, "b", num(1), api.ErrArg},
		{u, "go", num(1), api.ErrArg},
		{u, "", name("b"), api.ErrArg},
		{u, "abcdefghi", name("b"), api.ErrArg},
		{u, "b", api.TermExp{}, api.ErrArg},
		{u, "w", name("if"), api.ErrArg},
		{u, "q", api.TermExp{Op: api.TermInt, Text: "x"}, api.ErrArg}, // before ErrRule
		{u, "q", num(1), api.ErrRule},
		{u, "z", long, api.ErrRule},
		{travel("x", none), "x", num(1), api.ErrRule},
		{watch("x", none), "x", num(1), api.ErrRule},
		{par(tail, send("b")), "b", long, api.ErrArg},
		{par(many, send("b")), "b", nine, api.ErrRule}, // before ErrLong
		{tail, "b", long, api.ErrLong},
		{many, "b", nine, api.ErrLong},
		{tail, "b", num(1), api.OK},
		{many, "b", long, api.OK},
		{many, "x", name("y"), api.OK},
		{par(send("y", "x"), def(send("x"), rule(none, join("x")))), "x", num(1), api.OK}, // what leads a message is another x
		{def(none, rule(send("x"), join("y", "x"))), "x", num(1), api.OK},
	} {
		v, e := term.Put(c.u, c.x, c.e)
		if e != c.want || e != api.OK && !same(v, api.Term{}) {
			t.Error(i, text(v, nil), e)
		}
	}
}

// TestPutNamesFree: the result is what it is without names: each free x is e,
// and nothing else has changed.
func TestPutNamesFree(t *testing.T) {
	formed(t, 4, func(m *maker, u api.Term) {
		x, e := m.name(), m.exp(2)
		v, err := term.Put(u, x, e)
		if err != api.OK {
			return
		}
		whole := func(s string) string { return s + "'" }
		if e.Op == api.TermName {
			want := nameless(u, func(s string) string {
				if s == x {
					return e.Text + "'"
				}
				return s + "'"
			})
			if got := nameless(v, whole); got != want {
				t.Fatal(text(u, nil), x, e, got)
			}
		}
		free, _ := term.Free(u)
		want := slices.DeleteFunc(slices.Clone(free), func(s string) bool { return s == x })
		if slices.Contains(free, x) {
			of, _ := term.Free(bring(x, e))
			of = slices.DeleteFunc(of, func(s string) bool { return s == x && !stands(e, x) })
			want = append(want, of...)
		}
		slices.Sort(want)
		if got, _ := term.Free(v); !slices.Equal(got, slices.Compact(want)) {
			t.Fatal(text(u, nil), x, e, got, want)
		}
	})
}

func stands(e api.TermExp, x string) bool {
	return e.Op == api.TermName && e.Text == x || slices.ContainsFunc(e.Kids, func(k api.TermExp) bool { return stands(k, x) })
}

// putExp returns e with f in place of y.
func putExp(e api.TermExp, y string, f api.TermExp) api.TermExp {
	if e.Op == api.TermName && e.Text == y {
		return f
	}
	return api.TermExp{Op: e.Op, N: e.N, Text: e.Text, Kids: list(e.Kids, func(k api.TermExp) api.TermExp { return putExp(k, y, f) })}
}

func TestPutTwice(t *testing.T) {
	n := 0
	formed(t, 5, func(m *maker, u api.Term) {
		l := m.some(2)
		x, y := l[0], l[1]
		e, f := m.exp(2), m.exp(2)
		if stands(f, x) {
			return
		}
		a, err1 := term.Put(u, x, e)
		b, err2 := term.Put(u, y, f)
		if err1 != api.OK || err2 != api.OK {
			return
		}
		a, err1 = term.Put(a, y, f)
		b, err2 = term.Put(b, x, putExp(e, y, f))
		if err1 != api.OK || err2 != api.OK {
			return
		}
		n++
		if is, err := term.Alike(a, b); !is || err != api.OK {
			t.Fatal(text(u, nil), x, e, y, f, text(a, nil), text(b, nil))
		}
	})
	if n < 500 {
		t.Error(n)
	}
}
