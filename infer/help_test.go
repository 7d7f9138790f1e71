package infer_test

import (
	"fmt"
	"math/rand/v2"
	"slices"
	"strconv"
	"strings"
	"testing"

	"cabotage/api"
	"cabotage/infer"
	"cabotage/read"
	"cabotage/term"
)

// The processes of the chapter's examples.
const (
	procA = "x(1 + y) | go y; 0"
	procB = "def x(a, k) = k(a) in x(1, out) | x(out, q)"
	procC = "def get(k) & cell(a) = k(a) | cell(a) in cell(1) | get(out)"
	procD = "def x(a) & y(b) = 0 in x(1) | x(p) | y(x)"
)

func parse(t *testing.T, source string) api.Term {
	t.Helper()
	u, e := read.Parse(source)
	if e != api.OK {
		t.Fatalf("%s: error %d", source, e)
	}
	return u
}

// printed is the source of a process, or what is wrong with it.
func printed(u api.Term) string {
	s, e := read.Print(u)
	if e != api.OK {
		return fmt.Sprint("error ", e)
	}
	return s
}

// kind reads a type as the chapter writes it: int, place, chan(..), or the number
// of a variable.
func kind(s string) api.InferType {
	k, rest := kindAhead(s)
	if rest != "" {
		panic(s)
	}
	return k
}

func kindAhead(s string) (api.InferType, string) {
	if rest, is := strings.CutPrefix(s, "int"); is {
		return api.InferType{Op: api.InferInt}, rest
	}
	if rest, is := strings.CutPrefix(s, "place"); is {
		return api.InferType{Op: api.InferPlace}, rest
	}
	if rest, is := strings.CutPrefix(s, "chan("); is {
		k := api.InferType{Op: api.InferChan}
		for !strings.HasPrefix(rest, ")") {
			var kid api.InferType
			kid, rest = kindAhead(strings.TrimPrefix(rest, ", "))
			k.Kids = append(k.Kids, kid)
		}
		return k, rest[1:]
	}
	rest := strings.TrimLeft(s, "0123456789")
	n, err := strconv.Atoi(s[:len(s)-len(rest)])
	if err != nil {
		panic(s)
	}
	return api.InferType{Op: api.InferVar, N: n}, rest
}

// kinds reads types between commas.
func kinds(s string) []api.InferType {
	return channel(strings.TrimSpace(s)).Kids
}

// channel is the type of a channel whose messages bring some types.
func channel(kids string) api.InferType { return kind("chan(" + kids + ")") }

func show(k api.InferType) string {
	switch {
	case k.Op == api.InferVar && len(k.Kids) == 0:
		return strconv.Itoa(k.N)
	case k.Op == api.InferInt && k.N == 0 && len(k.Kids) == 0:
		return "int"
	case k.Op == api.InferPlace && k.N == 0 && len(k.Kids) == 0:
		return "place"
	case k.Op == api.InferChan && k.N == 0:
		return "chan(" + showAll(k.Kids) + ")"
	}
	return fmt.Sprint(k)
}

func showAll(l []api.InferType) string { return strings.Join(list(l, show), ", ") }

// showTyping writes types of free names, and those of the channels of each TermDef
// behind a semicolon.
func showTyping(y api.InferTyping) string {
	s := showAll(y.Free)
	for _, d := range y.Defs {
		s += "; " + strings.Join(list(d, showScheme), ", ")
	}
	return s
}

func showScheme(s api.InferScheme) string {
	if len(s.All) == 0 {
		return show(s.Type)
	}
	return show(s.Type) + ": " + strings.Join(list(s.All, strconv.Itoa), " ")
}

// inferred is the types of a process, or "error" with the number of the error.
func inferred(u api.Term) string {
	y, e := infer.Infer(u)
	if e != api.OK {
		if len(y.Free)+len(y.Defs) > 0 {
			return "types with an error"
		}
		return fmt.Sprint("error ", e)
	}
	return showTyping(y)
}

// typed reports whether a process types.
func typed(u api.Term) bool {
	_, e := infer.Infer(u)
	return e != api.ErrRule
}

// every is the numbers of all demands of a process.
func every(u api.Term) []int {
	l, _ := infer.Demands(u)
	var all []int
	for i := range l {
		all = append(all, i)
	}
	return all
}

func without(l []int, n int) []int {
	return slices.DeleteFunc(slices.Clone(l), func(i int) bool { return i == n })
}

func list[A, B any](l []A, f func(A) B) []B {
	var out []B
	for _, a := range l {
		out = append(out, f(a))
	}
	return out
}

// The sorts of names: what they are used for, most of the time. A name whose sort is
// a number from 0 on is used for a channel of so many values.
const (
	sortInt   = -1
	sortPlace = -2
	sortAny   = -3 // for anything
)

type bound struct {
	name string
	sort int
}

// maker makes processes by chance.
type maker struct{ *rand.Rand }

func newMaker(seed uint64) *maker { return &maker{rand.New(rand.NewPCG(seed, 4))} }

// process makes a process that is formed, unless it is too large.
func (m *maker) process() api.Term {
	outer := []bound{{"i", sortInt}, {"o", sortAny}, {"q", sortPlace}, {"c", 1}, {"f", 2}}
	m.Shuffle(len(outer), func(i, j int) { outer[i], outer[j] = outer[j], outer[i] })
	return m.term(2+m.IntN(4), outer[:1+m.IntN(4)])
}

// pick returns one of the names that are bound innermost, most of the time one of a
// sort; ok is false if there is none.
func (m *maker) pick(in []bound, fits func(sort int) bool) (b bound, ok bool) {
	var l []bound
	seen := map[string]bool{}
	for _, b := range slices.Backward(in) {
		if !seen[b.name] && (fits(b.sort) || m.IntN(40) == 0) {
			l = append(l, b)
		}
		seen[b.name] = true
	}
	if len(l) == 0 {
		return bound{}, false
	}
	return l[min(m.IntN(len(l)), m.IntN(len(l)))], true
}

func (m *maker) term(depth int, in []bound) api.Term {
	none := api.Term{Op: []api.TermOp{api.TermNil, api.TermNil, api.TermStop}[m.IntN(3)]}
	switch n := m.IntN(12); {
	case n < 5 || depth <= 1:
		b, ok := m.pick(in, func(sort int) bool { return sort >= 0 || sort == sortAny })
		if !ok {
			return none
		}
		many := b.sort
		if many < 0 {
			many = m.IntN(3)
		}
		return api.Term{Op: api.TermSend, Text: b.name, Args: list(make([]int, many), func(int) api.TermExp { return m.exp(2, in) })}
	case n < 7:
		return api.Term{Op: api.TermPar, Kids: []api.Term{m.term(depth-1, in), m.term(depth-1, in)}}
	case n == 7:
		return api.Term{Op: api.TermIf, Args: []api.TermExp{m.operation(2, in)}, Kids: []api.Term{m.term(depth-1, in), m.term(depth-1, in)}}
	case n == 8:
		b, ok := m.pick(in, func(sort int) bool { return sort == sortPlace || sort == sortAny })
		if !ok {
			return none
		}
		return api.Term{Op: api.TermGo + api.TermOp(2*m.IntN(2)), Text: b.name, Kids: []api.Term{m.term(depth-1, in)}}
	}
	return m.def(depth, in)
}

func (m *maker) exp(depth int, in []bound) api.TermExp {
	if b, ok := m.pick(in, func(int) bool { return true }); ok && m.IntN(5) > 0 {
		return api.TermExp{Op: api.TermName, Text: b.name}
	}
	if m.IntN(3) == 0 {
		return m.operation(depth-1, in)
	}
	return api.TermExp{Op: api.TermInt, N: m.IntN(9)}
}

// operation makes an expression whose names are integers, or alike.
func (m *maker) operation(depth int, in []bound) api.TermExp {
	if depth > 0 && m.IntN(3) == 0 {
		return api.TermExp{Op: api.TermSame, Kids: []api.TermExp{m.exp(depth-1, in), m.exp(depth-1, in)}}
	}
	if depth > 0 && m.IntN(2) == 0 {
		return api.TermExp{Op: api.TermAdd + api.TermSign(m.IntN(4)), Kids: []api.TermExp{m.operation(depth-1, in), m.operation(depth-1, in)}}
	}
	if b, ok := m.pick(in, func(sort int) bool { return sort == sortInt }); ok {
		return api.TermExp{Op: api.TermName, Text: b.name}
	}
	return api.TermExp{Op: api.TermInt, N: 1}
}

// def makes a TermDef: first its channels and places, then what stands in them.
func (m *maker) def(depth int, in []bound) api.Term {
	var names []bound
	for _, i := range m.Perm(8)[:2+m.IntN(3)] {
		sort := []int{sortPlace, 0, 1, 1, 1, 2, 2}[m.IntN(7)]
		names = append(names, bound{string("xyzuvwcp"[i]), sort})
	}
	in = slices.Concat(in, names)
	var defs []api.TermClause
	for len(names) > 0 {
		var c api.TermClause
		c, names = m.clause(depth-1, in, names)
		defs = append(defs, c)
		if k := m.IntN(len(defs)); m.IntN(4) == 0 && defs[k].Form == api.TermRule { // one more for the same channels
			defs = append(defs, m.rule(depth-1, in, defs[k].Joins))
		}
	}
	return api.Term{Op: api.TermDef, Defs: defs, Kids: []api.Term{m.term(depth-1, in)}}
}

// clause makes a definition of some of the names; it returns the other ones.
func (m *maker) clause(depth int, in, names []bound) (api.TermClause, []bound) {
	if names[0].sort == sortPlace {
		c := api.TermClause{Form: api.TermPlace, Text: names[0].name}
		names = names[1:]
		for len(names) > 0 && m.IntN(2) == 0 {
			var d api.TermClause
			d, names = m.clause(depth-1, in, names)
			c.Defs = append(c.Defs, d)
		}
		c.Kids = []api.Term{m.term(depth-1, in)}
		return c, names
	}
	var joins []api.TermMsg
	for len(names) > 0 && names[0].sort >= 0 && (joins == nil || m.IntN(2) == 0) {
		joins = append(joins, api.TermMsg{Text: names[0].name, Names: make([]string, names[0].sort)})
		names = names[1:]
	}
	return m.rule(depth, in, joins), names
}

// rule makes a rule for some channels, with new names.
func (m *maker) rule(depth int, in []bound, joins []api.TermMsg) api.TermClause {
	c := api.TermClause{Form: api.TermRule}
	letters := m.Perm(9)
	for _, j := range joins {
		k := api.TermMsg{Text: j.Text}
		for range j.Names {
			b := bound{string("abdeghkcx"[letters[0]]), []int{sortAny, sortAny, sortInt, sortPlace, 0, 1, 1}[m.IntN(7)]}
			letters = letters[1:]
			k.Names = append(k.Names, b.name)
			in = append(slices.Clip(in), b)
		}
		c.Joins = append(c.Joins, k)
	}
	c.Kids = []api.Term{m.term(depth, in)}
	return c
}

// formed calls f with formed processes made by chance.
func formed(t *testing.T, seed uint64, times int, f func(m *maker, u api.Term)) {
	t.Helper()
	m := newMaker(seed)
	n := 0
	for range times {
		u := m.process()
		if term.Check(u) == api.OK {
			n++
			f(m, u)
		}
	}
	if n < times/2 {
		t.Errorf("only %d processes", n)
	}
}

// kind makes a type with variables below a number.
func (m *maker) kind(depth, variables int) api.InferType {
	switch n := m.IntN(8); {
	case n == 0 || n < 3 && variables == 0:
		return kind("int")
	case n == 1:
		return kind("place")
	case n < 5 && variables > 0:
		return api.InferType{Op: api.InferVar, N: m.IntN(variables)}
	case depth <= 1:
		return kind("chan()")
	}
	return api.InferType{Op: api.InferChan, Kids: list(make([]int, m.IntN(3)), func(int) api.InferType { return m.kind(depth-1, variables) })}
}

// put returns a type in which some types stand in place of its variables.
func put(k api.InferType, in map[int]api.InferType) api.InferType {
	if other, is := in[k.N]; is && k.Op == api.InferVar {
		return other
	}
	k.Kids = list(k.Kids, func(kid api.InferType) api.InferType { return put(kid, in) })
	return k
}

func putAll(l []api.InferType, in map[int]api.InferType) []api.InferType {
	return list(l, func(k api.InferType) api.InferType { return put(k, in) })
}
