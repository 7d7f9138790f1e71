package usage_test

import (
	"math/rand/v2"
	"slices"
	"strings"
	"testing"

	"cabotage/api"
	"cabotage/sample"
	"cabotage/usage"
)

// example is the process P of the chapter.
const example = "def x(a) = a(1) | a(2) and y(b) & z(c) = b(c) in y(out) | z(x) | def w() = x(out) in w()"

// exampleTable is its table, as text.
const exampleTable = "*!! *1 (*)(1)(*); ! 1 ()"

func bind(t *testing.T, source string) api.ScopeProg {
	t.Helper()
	p, e := sample.Bound(source)
	if e != api.OK {
		t.Fatalf("%s: error %d", source, e)
	}
	return p
}

func source(p api.ScopeProg) string { return sample.Source(p) }

// show writes a table: of each definition the kinds of its channels, those of its
// rules, and in brackets those of each channel's values. Never is 0, once !, at most
// once 1, any number of times *; - stands for none at all.
func show(t []api.UsageDef) string {
	var defs []string
	for _, u := range t {
		args := ""
		for _, l := range u.Args {
			args += "(" + letters(l) + ")"
		}
		defs = append(defs, some(letters(u.Chans))+" "+some(letters(u.Rules))+" "+some(args))
	}
	return strings.Join(defs, "; ")
}

func letters(l []api.UsageKind) string {
	s := ""
	for _, k := range l {
		if k < api.UsageNever || k > api.UsageMany {
			s += "?"
			continue
		}
		s += "0!1*"[k-1 : k]
	}
	return s
}

func some(s string) string {
	if s == "" {
		return "-"
	}
	return s
}

// table is the table that is written so.
func table(s string) []api.UsageDef {
	var t []api.UsageDef
	for _, d := range strings.FieldsFunc(s, func(r rune) bool { return r == ';' }) {
		f := strings.Fields(d)
		u := api.UsageDef{Chans: kinds(f[0]), Rules: kinds(f[1])}
		for _, l := range strings.SplitAfter(f[2], ")") {
			if strings.HasSuffix(l, ")") {
				u.Args = append(u.Args, kinds(strings.Trim(l, "()")))
			}
		}
		t = append(t, u)
	}
	return t
}

func kinds(s string) []api.UsageKind {
	var l []api.UsageKind
	for _, r := range s {
		if r != '-' {
			l = append(l, api.UsageKind(1+strings.IndexRune("0!1*", r)))
		}
	}
	return l
}

// found is the table of a program.
func found(t *testing.T, p api.ScopeProg) []api.UsageDef {
	t.Helper()
	u, e := usage.Table(p)
	if e != api.OK {
		t.Fatalf("%s: error %d", source(p), e)
	}
	return u
}

// copied is a table with memory of its own.
func copied(t []api.UsageDef) []api.UsageDef {
	var out []api.UsageDef
	for _, u := range t {
		v := api.UsageDef{Chans: slices.Clone(u.Chans), Rules: slices.Clone(u.Rules)}
		for _, l := range u.Args {
			v.Args = append(v.Args, slices.Clone(l))
		}
		out = append(out, v)
	}
	return out
}

func name(n int) api.ScopeExp { return api.ScopeExp{Op: api.TermName, N: n} }

func num(n int) api.ScopeExp { return api.ScopeExp{Op: api.TermInt, N: n} }

// maker makes programs, and tables for them, by chance.
type maker struct{ *rand.Rand }

func newMaker(seed uint64) *maker { return &maker{rand.New(rand.NewPCG(seed, 5))} }

// program makes a formed program with definitions of at most so many channels.
func (m *maker) program(chans int) api.ScopeProg { return sample.Program(m.IntN, chans) }

// raised is a table for a program that is made by chance: of the program's own one
// some kinds are changed, most of them to greater ones.
func (m *maker) raised(p api.ScopeProg, t []api.UsageDef) []api.UsageDef {
	t = copied(t)
	l := items(p)
	if len(l) == 0 {
		return t
	}
	for range m.IntN(len(l) + 1) {
		i := l[m.IntN(len(l))]
		now := i.in(t)
		*now = max(*now, api.UsageKind(1+m.IntN(4)))
		if m.IntN(9) == 0 {
			*now = api.UsageKind(1 + m.IntN(4))
		}
		if *now == api.UsageOnce && i.part != channels {
			*now = api.UsageMost
		}
	}
	return t
}
