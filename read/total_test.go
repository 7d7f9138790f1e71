package read_test

import (
	"fmt"
	"slices"
	"strings"
	"testing"

	"cabotage/api"
	"cabotage/read"
)

// P0.12, and the rules R2 to R4 and R8

// all calls each function with a source, and reports its results as text. It asks
// that there is nothing else with an error.
func all(t *testing.T, source string) string {
	t.Helper()
	k, e1 := read.Tokens(source)
	f, e2 := read.Fault(source)
	r, e3 := read.Rest(source)
	m, e4 := read.Mend(source)
	u, e5 := read.Parse(source)
	l, e6 := read.Spots(source)
	x, e7 := read.Exp(source)
	for i, c := range []struct {
		e    api.Errno
		some bool
	}{
		{e1, k != nil}, {e2, f != api.ReadFault{}}, {e3, r != ""}, {e4, m != nil}, {e5, text(u) != text(api.Term{})}, {e6, l != nil}, {e7, expText(x) != expText(api.TermExp{})},
	} {
		if c.e != api.OK && c.some {
			t.Fatalf("%.80q: function %d: error %d, and a result", source, i, c.e)
		}
	}
	return fmt.Sprint(k, f, r, m, text(u), l, expText(x), e1, e2, e3, e4, e5, e6, e7)
}

func TestAnySource(t *testing.T) {
	long := []string{"", "\x00", strings.Repeat("x", 1<<22), strings.Repeat("~", api.ReadLong), strings.Repeat("/", api.ReadLong), strings.Repeat("\n", api.ReadLong), strings.Repeat("9", api.ReadLong), strings.Repeat("\xff", api.ReadLong)}
	for _, s := range []string{"(", ")", "x(", "((x(", "go a;", "0|", "1+", "x(1+", "x((1*", "if 0 then ", "if 0 then 0 else ", "def x() = ", "def place p {", "def place p { in ", "x()&", "def x(a,", "0", "1 ", "=", "a ", "in ", "//\n"} {
		long = append(long, strings.Repeat(s, api.ReadLong/len(s)))
	}
	for _, s := range long {
		if all(t, s) != all(t, s) {
			t.Errorf("%.80q: other results", s)
		}
	}
	m := newMaker(10)
	for range 1500 {
		var s string
		switch m.IntN(3) {
		case 0:
			b := make([]byte, m.IntN(60))
			for i := range b {
				b[i] = byte(m.IntN(256))
			}
			s = string(b)
		case 1:
			s = m.spread(m.spoilt(m.process(12)))
		default:
			b := []byte(m.spread(m.process(12)))
			b[m.IntN(len(b))] = byte(m.IntN(256))
			s = string(b)
		}
		if all(t, s) != all(t, s) {
			t.Errorf("%q: other results", s)
		}
	}
}

func TestAnyProcess(t *testing.T) {
	kids := []api.Term{zero, zero}
	kids[1] = node(api.TermPar, kids...)
	kids[1].Kids = kids
	exps := []api.TermExp{num(1), num(1)}
	exps[0] = api.TermExp{Op: api.TermAdd, Kids: exps}
	defs := []api.TermClause{place("p", zero)}
	defs[0].Defs = defs
	chain := zero
	sum := num(1)
	for range 1 << 16 {
		chain = headed(api.TermGo, "p", chain)
		sum = exp(api.TermAdd, sum, num(1))
	}
	for i, u := range []api.Term{kids[1], send("x", exps[0]), def(zero, defs...), chain, send("x", sum), send("x", make([]api.TermExp, 1<<20)...), send(strings.Repeat("a", 1<<24)), {Op: -1}, {Op: 1 << 40}} {
		if s, e := read.Print(u); s != "" || e != api.ErrArg {
			t.Errorf("%d: %q, error %d", i, s, e)
		}
	}
	for i, x := range []api.TermExp{exps[0], sum, {Op: -1}, {Op: api.TermAdd, Kids: make([]api.TermExp, 1<<20)}, name(strings.Repeat("a", 1<<24))} {
		if s, e := read.PrintExp(x); s != "" || e != api.ErrArg {
			t.Errorf("%d: %q, error %d", i, s, e)
		}
	}
}

// TestMemory: what is printed stays as it is, and what is written over a result is
// seen in no other one.
func TestMemory(t *testing.T) {
	u := tree()
	was := text(u)
	s, _ := read.Print(u)
	if again, _ := read.Print(u); text(u) != was || s != again || s != printed {
		t.Errorf("%q, %q, %s", s, again, text(u))
	}
	before := all(t, printed)
	v, _ := read.Parse(printed)
	l, _ := read.Spots(printed)
	k, _ := read.Tokens(printed)
	m, _ := read.Mend(printed)
	x, _ := read.Exp("1 + 2")
	v.Defs[0].Joins[0].Names[0] = "scribble"
	v.Defs[1].Kids[0].Kids[0].Args[0] = num(77)
	v.Kids[0].Kids[1] = stop
	x.Kids[0] = num(77)
	clear(l)
	clear(k)
	clear(m)
	if all(t, printed) != before {
		t.Error(all(t, printed), before)
	}
	// Lists beside each other share no memory either.
	w, _ := read.Parse("def x(a, b) & y(c) = x(1, 2) | y(3) in 0")
	joins := w.Defs[0].Joins
	joins[0].Names = append(joins[0].Names, "d")
	body := w.Defs[0].Kids[0]
	body.Kids[0].Args = append(body.Kids[0].Args, num(4))
	if !slices.Equal(joins[1].Names, []string{"c"}) || expText(body.Kids[1].Args[0]) != expText(num(3)) {
		t.Error(text(w))
	}
}
