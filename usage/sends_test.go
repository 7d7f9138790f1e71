package usage_test

import (
	"slices"
	"testing"

	"cabotage/api"
	"cabotage/usage"
)

// P5.1

// kindNames are the kinds, as the tests write them.
var kindNames = map[api.UsageKind]string{api.UsageNever: "never", api.UsageOnce: "once", api.UsageMost: "most", api.UsageMany: "many"}

// TestSends asks what whole processes send to the free name x.
func TestSends(t *testing.T) {
	for _, c := range []struct{ source, table, kind string }{
		{"0 | x(1)", "", "most"},
		{"stop | y(x + 1, 2 * x)", "", "never"},
		{"stop | x(x == x)", "", "most"},
		{"x()", "", "most"},
		{"x(1, 2, 3)", "", "most"},
		{"x(x)", "", "many"},
		{"y(x)", "", "many"},
		{"y(1, 2, x)", "", "many"},
		{"x(1) | x(2)", "", "many"},
		{"x(1) | y(2)", "", "most"},
		{"if x then x(1) else x(2)", "", "most"},
		{"if x then 0 else x(2)", "", "most"},
		{"if x then x(1) | x(1) else 0", "", "many"},
		{"if x then 0 else 0", "", "never"},
		{"go x; 0", "", "never"},
		{"go x; x(1)", "", "most"},
		{"watch x; 0", "", "never"},
		{"watch x; x(1) | x(1)", "", "many"},
		// By the table's counts of rules; the Kid, and what is in places, counts once.
		{"def k() = x(1) in 0", "* 0 ()", "never"},
		{"def k() = x(1) in 0", "* 1 ()", "most"},
		{"def k() = x(1) in 0", "* * ()", "many"},
		{"def k() = x(1) | x(1) in 0", "0 1 ()", "many"},
		{"def k() = 0 in x(1)", "* * ()", "most"},
		{"def k() = x(1) in x(1)", "* 1 ()", "many"},
		{"def k() = x(1) and k() = x(2) in 0", "* 11 ()", "many"},
		{"def k() = x(1) and k() = x(2) in 0", "* 10 ()", "most"},
		{"def k() = 0 and place p { in x(1) } in 0", "0 0 ()", "most"},
		{"def place p { place q { in x(1) } in x(1) } in 0", "- - -", "many"},
		{"def k() = def l() = x(1) in 0 in 0", "0 1 (); 0 * ()", "many"},
		{"def k() = def l() = x(1) in 0 in 0", "0 * (); 0 1 ()", "many"},
		{"def k() = def l() = x(1) in 0 in 0", "0 1 (); 0 1 ()", "most"},
		{"def k() = def l() = x(1) in 0 in 0", "0 0 (); 0 * ()", "never"},
		// By its counts of what messages bring.
		{"def k(a) = 0 in k(x)", "0 0 (0)", "never"},
		{"def k(a) = 0 in k(x)", "0 0 (1)", "most"},
		{"def k(a) = 0 in k(x)", "0 0 (*)", "many"},
		{"def k(a) = 0 in k(x) | x(1)", "0 0 (1)", "many"},
		{"def k(a, b) = 0 in k(x, 1)", "0 0 (1*)", "most"},
		{"def k(a, b) = 0 in k(1, x)", "0 0 (1*)", "many"},
		{"def k(a, b) = 0 in k(x, x)", "0 0 (11)", "many"},
		{"def k(a, b) = 0 in k(x, x)", "0 0 (10)", "most"},
		{"def k(a) = 0 in k(x == 1)", "0 0 (*)", "never"},
		{"def k(a) = 0 in k() | k(x, x)", "0 0 (*)", "never"},
		{"def k(a) = 0 and l(a) = 0 in l(x)", "00 00 (0)(1)", "most"},
		{"def k(a) = 0 in def l(b) = k(x) in 0", "0 0 (1); 0 1 (0)", "most"},
		{"def k(a) = 0 in def k(b) = 0 in k(x)", "0 0 (0); 0 0 (1)", "most"},
		{"def k(a) = a(x) in 0", "0 1 (0)", "many"},
		{"def place p { in 0 } in p(x)", "- - -", "many"},
	} {
		p := bind(t, c.source)
		k, e := usage.Sends(p, table(c.table), p.Main, slices.Index(p.Free, "x"))
		if e != api.OK || kindNames[k] != c.kind {
			t.Errorf("%s by %s: %s (error %d), not %s", c.source, c.table, kindNames[k], e, c.kind)
		}
	}
}

// TestSure asks what is sent for sure to the channel c of one value, beside its
// definition.
func TestSure(t *testing.T) {
	for _, c := range []struct {
		source string
		sure   int
	}{
		{"0", 0}, {"stop", 0}, {"c(1)", 1}, {"c(c)", 1}, {"c()", 0}, {"c(1, 2)", 0}, {"d(c)", 0}, {"out(c)", 0}, {"d(1)", 0},
		{"c(1) | c(2)", 2}, {"c(1) | 0 | c(2) | c(c)", 3}, {"c(1) | c()", 1},
		{"if c then c(1) else c(2)", 1}, {"if c then c(1) else 0", 0}, {"if c then 0 else c(1)", 0}, {"if 1 then c(1) | c(1) | c(1) else c(1) | c(1)", 2},
		{"go out; c(1)", 0}, {"watch out; c(1)", 0},
		{"def e() = c(1) in 0", 0}, {"def e() = c(1) in e()", 0}, {"def e() = 0 in c(1)", 1},
		{"def place p { in c(1) } in 0", 1}, {"def place p { place q { in c(1) } in c(2) } in c(3)", 3}, {"def place p { in c(1) | c(1) } in go p; c(3)", 2},
		{"def c(a) = 0 in c(1)", 0}, // another one
	} {
		p := bind(t, "def c(a) = 0 and d(b) = 0 in "+c.source)
		if n, e := usage.Sure(p, p.Nodes[p.Main].Kids[0], len(p.Free)); e != api.OK || n != c.sure {
			t.Errorf("%s: %d (error %d), not %d", c.source, n, e, c.sure)
		}
	}
	// Places that denote no channel.
	p := bind(t, "def c(a) = a() and place p { in p() } in x() | p()")
	for _, c := range [][2]int{{0, 0}, {1, 3}, {2, 2}, {3, 0}, {3, 2}} {
		if n, e := usage.Sure(p, c[0], c[1]); e != api.OK || n != 0 {
			t.Errorf("the node %d to the place %d: %d (error %d)", c[0], c[1], n, e)
		}
	}
}

func TestSendsByChance(t *testing.T) {
	m := newMaker(6)
	seen := map[api.UsageKind]int{}
	sure := map[int]int{}
	for range 250 {
		p := m.program(5)
		u := m.raised(p, found(t, p))
		q := newPlain(p)
		for n, env := range q.envs {
			for to := range env {
				k, e1 := usage.Sends(p, u, n, to)
				s, e2 := usage.Sure(p, n, to)
				if e1 != api.OK || e2 != api.OK || k != kindOf(q.sends(u, n, to)) || s != q.sure(n, to) {
					t.Fatal(source(p), show(u), n, to, k, e1, s, e2)
				}
				seen[k]++
				sure[s]++
			}
		}
	}
	if min(seen[api.UsageNever], seen[api.UsageMost], seen[api.UsageMany], sure[1], 20*sure[2]) < 800 || len(seen) != 3 {
		t.Error(seen, sure)
	}
}

func TestSendsErrors(t *testing.T) {
	p := bind(t, example)
	u := table(exampleTable)
	for _, c := range [][2]int{{-1, 0}, {12, 0}, {0, -1}, {0, 1}, {5, 4}, {1, 5}, {4, 6}, {11, 5}, {1 << 40, 0}, {0, 1 << 40}, {-1 << 63, -1 << 63}} {
		if k, e := usage.Sends(p, u, c[0], c[1]); e != api.ErrArg || k != 0 {
			t.Error(c, k, e)
		}
		if n, e := usage.Sure(p, c[0], c[1]); e != api.ErrArg || n != 0 {
			t.Error(c, n, e)
		}
	}
	for _, c := range [][2]int{{0, 0}, {5, 3}, {1, 4}, {4, 5}, {11, 4}} {
		if _, e := usage.Sends(p, u, c[0], c[1]); e != api.OK {
			t.Error(c, e)
		}
	}
	for i, p := range unformed(t) {
		if k, e := usage.Sends(p, nil, 0, 0); e != api.ErrArg || k != 0 {
			t.Error(i, k, e)
		}
		if n, e := usage.Sure(p, 0, 0); e != api.ErrArg || n != 0 {
			t.Error(i, n, e)
		}
	}
	for _, c := range misfits() {
		if k, e := usage.Sends(p, c.table, 0, 0); e != api.ErrArg || k != 0 {
			t.Error(c.what, k, e)
		}
	}
}
