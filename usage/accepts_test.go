package usage_test

import (
	"testing"

	"cabotage/api"
	"cabotage/usage"
)

// P5.3

func TestAccepts(t *testing.T) {
	for _, c := range []struct {
		source, table string
		is            bool
	}{
		{"0", "", true},
		{example, exampleTable, true},
		{example, "*** ** (*)(*)(*); * * ()", true},
		{example, "*1! *1 (*)(1)(*); ! 1 ()", true},
		{example, "*!! ** (*)(1)(*); ! 1 ()", true},
		{example, "*!! *1 (*)(*)(*); ! 1 ()", true},
		{example, "*!! *1 (*)(1)(*); * * ()", true},
		{example, "1!! *1 (*)(1)(*); ! 1 ()", false},
		{example, "!!! *1 (*)(1)(*); ! 1 ()", false},
		{example, "*!0 *1 (*)(1)(*); ! 1 ()", false},
		{example, "*!! 11 (*)(1)(*); ! 1 ()", false},
		{example, "*!! *0 (*)(1)(*); ! 1 ()", false},
		{example, "*** *1 (*)(1)(*); ! 1 ()", false},
		{example, "*!* *1 (*)(1)(*); ! 1 ()", true},
		{example, "*!! *1 (1)(1)(*); ! 1 ()", false},
		{example, "*!! *1 (*)(0)(*); ! 1 ()", false},
		{example, "*!! *1 (*)(1)(1); ! 1 ()", false},
		{example, "*!! *1 (*)(1)(*); * 1 ()", false},
		{example, "*!! *1 (*)(1)(*); 0 0 ()", false},
		// A channel that brings one message at once.
		{"def x() = 0 in x()", "! 1 ()", true},
		{"def x() = 0 in x()", "1 1 ()", true},
		{"def x() = 0 in 0", "! 1 ()", false},
		{"def x() = 0 in 0", "1 1 ()", true},
		{"def x() = 0 in x() | x()", "! 1 ()", false},
		{"def x() = 0 in if 1 then x() else 0", "! 1 ()", false},
		{"def x() = 0 in if 1 then x() else x()", "! 1 ()", true},
		{"def x() = 0 in go p; x()", "! 1 ()", false},
		{"def x() = 0 in watch p; x()", "! 1 ()", false},
		{"def x() = 0 and place p { in x() } in 0", "! 1 ()", true},
		{"def x() = 0 in def w() = x() in w()", "! 1 (); ! 1 ()", false},
		{"def x() = 0 in def w() = x() in w()", "1 1 (); ! 1 ()", true},
		{"def x(a) = 0 in x()", "! 1 (0)", false},
		{"def x() = x() in 0", "! 1 ()", false},
		// One that waits for itself is accepted with more than it ever gets.
		{"def x() = x() in 0", "0 0 ()", true},
		{"def x() = x() in 0", "1 1 ()", true},
		{"def x() = x() in 0", "* * ()", true},
		{"def x() = x() in 0", "0 1 ()", false},
		{"def x() = x() in 0", "1 0 ()", false},
		{"def k(a) = k(a) in 0", "0 0 (*)", true},
		{"def k(a) = k(a) in 0", "1 1 (1)", true},
		{"def k(a) = k(a) in 0", "1 1 (0)", true},
		// Values are asked for only by rules that can react.
		{"def k(a) & l() = a() in 0", "00 0 (0)()", true},
		{"def k(a) & l() = a() in 0", "00 1 (0)()", false},
		{"def k(a) & l() = a() in 0", "00 1 (1)()", true},
		{"def k(a) & l() = a() | a() in 0", "00 1 (1)()", false},
		{"def k(a) & l() = a() | a() in 0", "00 1 (*)()", true},
		{"def k(a) & l(b) = b() in k(1) | l(1)", "!! 1 (0)(1)", true},
		{"def k(a) & l(b) = b() in k(1) | l(1)", "!! 1 (1)(0)", false},
		{"def k(a) = 0 and l() & k(a) = a() in 0", "00 10 (0)()", true},
		{"def k(a) = 0 and l() & k(a) = a() in 0", "00 01 (0)()", false},
		{"def k(a) = 0 and l() & k(a) = a() in 0", "00 01 (1)()", true},
		// A rule is asked for the least one of its channels.
		{"def x() & y() = 0 in x() | y() | y()", "!* 1 ()()", true},
		{"def x() & y() = 0 in x() | y() | y()", "!* 0 ()()", false},
		{"def x() & y() = 0 in x() | x() | y() | y()", "** 1 ()()", false},
		{"def x() & y() = 0 in x() | x()", "*0 0 ()()", true},
		{"def x() & y() = 0 in x() | x()", "*1 0 ()()", false},
	} {
		is, e := usage.Accepts(bind(t, c.source), table(c.table))
		if e != api.OK || is != c.is {
			t.Errorf("%s by %s: %v (error %d)", c.source, c.table, is, e)
		}
	}
}

func TestAcceptsByChance(t *testing.T) {
	m := newMaker(7)
	seen := map[bool]int{}
	for range 6000 {
		p := m.program(5)
		q := newPlain(p)
		u := m.raised(p, found(t, p))
		if m.IntN(2) == 0 {
			u = q.grown(m, u)
		}
		is, e := usage.Accepts(p, u)
		if e != api.OK || is != q.accepts(u) {
			t.Fatal(source(p), show(u), is, e)
		}
		seen[is]++
	}
	if min(seen[true], seen[false]) < 1500 {
		t.Error(seen)
	}
}

// misfit is a table that is not as defined for the example.
type misfit struct {
	what  string
	table []api.UsageDef
}

func misfits() []misfit {
	var l []misfit
	add := func(what string, change func(t []api.UsageDef) []api.UsageDef) {
		l = append(l, misfit{what, change(table(exampleTable))})
	}
	of := func(what string, change func(u *api.UsageDef)) {
		for d := range 2 {
			add(what, func(t []api.UsageDef) []api.UsageDef { change(&t[d]); return t })
		}
	}
	add("no table", func([]api.UsageDef) []api.UsageDef { return nil })
	add("less definitions", func(t []api.UsageDef) []api.UsageDef { return t[:1] })
	add("more definitions", func(t []api.UsageDef) []api.UsageDef { return append(t, t[1]) })
	add("very many definitions", func([]api.UsageDef) []api.UsageDef { return make([]api.UsageDef, 1<<20) })
	add("in another order", func(t []api.UsageDef) []api.UsageDef { t[0], t[1] = t[1], t[0]; return t })
	of("nothing", func(u *api.UsageDef) { *u = api.UsageDef{} })
	of("less channels", func(u *api.UsageDef) { u.Chans = u.Chans[1:] })
	of("more channels", func(u *api.UsageDef) { u.Chans = append(u.Chans, api.UsageMany) })
	of("less rules", func(u *api.UsageDef) { u.Rules = u.Rules[1:] })
	of("more rules", func(u *api.UsageDef) { u.Rules = append(u.Rules, api.UsageMany) })
	of("less lists of values", func(u *api.UsageDef) { u.Args = u.Args[1:] })
	of("more lists of values", func(u *api.UsageDef) { u.Args = append(u.Args, nil) })
	of("more values", func(u *api.UsageDef) { u.Args[0] = append(u.Args[0], api.UsageMany) })
	add("less values", func(t []api.UsageDef) []api.UsageDef { t[0].Args[2] = nil; return t })
	for _, k := range []api.UsageKind{-1 << 63, -1, 0, 5, 1 << 40} {
		of("a channel that has no kind", func(u *api.UsageDef) { u.Chans[len(u.Chans)-1] = k })
		of("a rule that has no kind", func(u *api.UsageDef) { u.Rules[len(u.Rules)-1] = k })
		add("a value that has no kind", func(t []api.UsageDef) []api.UsageDef { t[0].Args[1][0] = k; return t })
	}
	of("a rule that reacts once, at once", func(u *api.UsageDef) { u.Rules[0] = api.UsageOnce })
	add("a value that is sent to once, at once", func(t []api.UsageDef) []api.UsageDef { t[0].Args[2][0] = api.UsageOnce; return t })
	return l
}

func TestAcceptsErrors(t *testing.T) {
	p := bind(t, example)
	for _, c := range misfits() {
		if is, e := usage.Accepts(p, c.table); e != api.ErrArg || is {
			t.Error(c.what, is, e)
		}
	}
	for i, p := range unformed(t) {
		if is, e := usage.Accepts(p, nil); e != api.ErrArg || is {
			t.Error(i, is, e)
		}
		if is, e := usage.Accepts(p, table(exampleTable)); e != api.ErrArg || is {
			t.Error(i, is, e)
		}
	}
}
