package infer_test

import (
	"maps"
	"slices"

	"cabotage/api"
	"cabotage/term"
)

// The definitions of the chapter once more, read plainly and in another way than
// the package does: all parts stand in one list, names are looked for from where
// they stand upwards, types are trees, and what variables have become is kept
// beside them.

// spot is a part, where it stands, and in which part.
type spot struct {
	up     int // -1: nowhere
	term   *api.Term
	exp    *api.TermExp
	clause *api.TermClause
	binds  []string // in its parts
	places []string // those of binds that are places
}

// plain is a process that is typed.
type plain struct {
	parts   []spot
	free    []string
	names   map[owned]api.InferType
	general map[int]map[int]bool // of each TermDef whose Kid has been come to
	is      map[int]api.InferType
	next    int
}

// owned is a name with the part that binds it; -1: it is free.
type owned struct {
	owner int
	name  string
}

func newPlain(t api.Term) *plain {
	p := &plain{names: map[owned]api.InferType{}, general: map[int]map[int]bool{}, is: map[int]api.InferType{}}
	p.free, _ = term.Free(t)
	p.term(-1, &t)
	return p
}

func (p *plain) add(s spot) int {
	p.parts = append(p.parts, s)
	return len(p.parts) - 1
}

func (p *plain) term(up int, t *api.Term) {
	s := spot{up: up, term: t}
	if t.Op == api.TermDef {
		s.binds, s.places, _ = term.Defines(*t)
		s.binds = append(s.binds, s.places...)
	}
	i := p.add(s)
	for j := range t.Args {
		p.exp(i, &t.Args[j])
	}
	for j := range t.Defs {
		p.clause(i, &t.Defs[j])
	}
	for j := range t.Kids {
		p.term(i, &t.Kids[j])
	}
}

func (p *plain) exp(up int, e *api.TermExp) {
	i := p.add(spot{up: up, exp: e})
	for j := range e.Kids {
		p.exp(i, &e.Kids[j])
	}
}

func (p *plain) clause(up int, c *api.TermClause) {
	s := spot{up: up, clause: c}
	for _, m := range c.Joins {
		s.binds = append(s.binds, m.Names...)
	}
	i := p.add(s)
	for j := range c.Defs {
		p.clause(i, &c.Defs[j])
	}
	for j := range c.Kids {
		p.term(i, &c.Kids[j])
	}
}

// kids returns the numbers of the parts of a part.
func (p *plain) kids(i int) []int {
	var l []int
	for j, s := range p.parts {
		if s.up == i {
			l = append(l, j)
		}
	}
	return l
}

// around returns the parts around a part, from inside outwards, and whether a part
// stands in the Kid of each of them.
func (p *plain) around(i int) (l []int, kid []bool) {
	for j := p.parts[i].up; j >= 0; j = p.parts[j].up {
		l = append(l, j)
		kid = append(kid, p.parts[i].term != nil)
		i = j
	}
	return l, kid
}

func (p *plain) variable() api.InferType {
	p.next++
	return api.InferType{Op: api.InferVar, N: p.next - 1}
}

// of returns the type of a name that a part binds.
func (p *plain) of(owner int, name string) api.InferType {
	key := owned{owner, name}
	if k, is := p.names[key]; is {
		return p.become(k)
	}
	p.names[key] = p.variable()
	if owner >= 0 && slices.Contains(p.parts[owner].places, name) {
		p.names[key] = kind("place")
	}
	return p.names[key]
}

// stands returns the type of a name that stands in a part.
func (p *plain) stands(i int, name string) api.InferType {
	l, kid := p.around(i)
	for n, j := range l {
		if !slices.Contains(p.parts[j].binds, name) {
			continue
		}
		k := p.of(j, name)
		if !kid[n] || p.parts[j].term == nil {
			return k
		}
		others := map[int]api.InferType{}
		for v := range p.general[j] {
			others[v] = p.variable()
		}
		return put(k, others)
	}
	return p.of(-1, name)
}

// value returns the type of the expression that is a part.
func (p *plain) value(i int) api.InferType {
	if e := p.parts[i].exp; e.Op == api.TermName {
		return p.stands(i, e.Text)
	}
	return kind("int")
}

// equation is a demand, with the types that are equal if it is met.
type equation struct {
	api.InferDemand
	a, b api.InferType
}

// asks returns the demands of a part.
func (p *plain) asks(i int) []equation {
	s := p.parts[i]
	one := func(w api.InferWish, a, b api.InferType) []equation {
		return []equation{{api.InferDemand{Wish: w, Part: i}, a, b}}
	}
	switch {
	case s.exp != nil && s.exp.Op == api.TermSame:
		return one(api.InferAlike, p.value(p.kids(i)[0]), p.value(p.kids(i)[1]))
	case s.exp != nil && s.exp.Op != api.TermInt && s.exp.Op != api.TermName:
		l := append(one(api.InferOperand, p.value(p.kids(i)[0]), kind("int")), one(api.InferOperand, p.value(p.kids(i)[1]), kind("int"))...)
		l[1].N = 1
		return l
	case s.exp != nil:
		return nil
	case s.clause != nil:
		return p.joins(i)
	}
	switch s.term.Op {
	case api.TermSend:
		return one(api.InferSend, p.stands(i, s.term.Text), api.InferType{Op: api.InferChan, Kids: list(p.kids(i), p.value)})
	case api.TermIf:
		return one(api.InferTest, p.value(i+1), kind("int"))
	case api.TermGo:
		return one(api.InferGo, p.stands(i, s.term.Text), kind("place"))
	case api.TermWatch:
		return one(api.InferWatch, p.stands(i, s.term.Text), kind("place"))
	}
	return nil
}

func (p *plain) joins(i int) []equation {
	var l []equation
	for n, m := range p.parts[i].clause.Joins {
		names := list(m.Names, func(name string) api.InferType { return p.of(i, name) })
		l = append(l, equation{api.InferDemand{Wish: api.InferJoin, Part: i, N: n}, p.of(p.defines(i), m.Text), api.InferType{Op: api.InferChan, Kids: names}})
	}
	return l
}

// defines returns the TermDef that a definition is of.
func (p *plain) defines(i int) int {
	for p.parts[i].clause != nil {
		i = p.parts[i].up
	}
	return i
}

// meet meets some demands; it reports whether that can be. It returns the demands,
// too.
func (p *plain) meet(some []int) (demands []api.InferDemand, ok bool) {
	ok = true
	for i := range p.parts {
		if up := p.parts[i].up; up >= 0 && p.parts[i].term != nil && p.parts[up].term != nil && p.parts[up].term.Op == api.TermDef {
			p.general[up] = p.generalOf(up)
		}
		for _, q := range p.asks(i) {
			if slices.Contains(some, len(demands)) {
				ok = ok && p.equate(q.a, q.b)
			}
			demands = append(demands, q.InferDemand)
		}
	}
	return demands, ok
}

// generalOf returns the variables that are general for a TermDef.
func (p *plain) generalOf(d int) map[int]bool {
	all := map[int]bool{}
	for _, name := range p.parts[d].binds {
		maps.Copy(all, variables(p.of(d, name)))
	}
	for v := range all {
		if p.staysAround(d, v) || p.isShared(d, v) {
			delete(all, v)
		}
	}
	return all
}

func (p *plain) staysAround(d, v int) bool {
	for _, name := range p.free {
		if variables(p.of(-1, name))[v] {
			return true
		}
	}
	l, kid := p.around(d)
	for n, j := range l {
		for _, name := range p.parts[j].binds {
			if variables(p.of(j, name))[v] && !(kid[n] && p.general[j][v]) {
				return true
			}
		}
	}
	return false
}

// isShared reports whether a rule of a TermDef has two channels with a variable.
func (p *plain) isShared(d, v int) bool {
	for i, s := range p.parts {
		if s.clause == nil || p.defines(i) != d {
			continue
		}
		n := 0
		for _, m := range s.clause.Joins {
			if variables(p.of(d, m.Text))[v] {
				n++
			}
		}
		if n > 1 {
			return true
		}
	}
	return false
}

func variables(k api.InferType) map[int]bool {
	l := map[int]bool{}
	if k.Op == api.InferVar {
		l[k.N] = true
	}
	for _, kid := range k.Kids {
		maps.Copy(l, variables(kid))
	}
	return l
}

// become returns what a type has become, with all within it.
func (p *plain) become(k api.InferType) api.InferType {
	if k.Op == api.InferVar {
		if other, is := p.is[k.N]; is {
			return p.become(other)
		}
	}
	k.Kids = list(k.Kids, p.become)
	return k
}

// equate makes two types equal; it reports whether that can be.
func (p *plain) equate(a, b api.InferType) bool {
	a, b = p.become(a), p.become(b)
	if a.Op != api.InferVar {
		a, b = b, a
	}
	if a.Op == api.InferVar {
		if b.Op == api.InferVar && b.N == a.N {
			return true
		}
		if variables(b)[a.N] {
			return false
		}
		p.is[a.N] = b
		return true
	}
	if a.Op != b.Op || len(a.Kids) != len(b.Kids) {
		return false
	}
	for i := range a.Kids {
		if !p.equate(a.Kids[i], b.Kids[i]) {
			return false
		}
	}
	return true
}

// typing returns the types of a process whose demands are all met.
func (p *plain) typing() api.InferTyping {
	var y api.InferTyping
	var numbers numbering
	for _, name := range p.free {
		y.Free = append(y.Free, numbers.anew(p.of(-1, name)))
	}
	for d, s := range p.parts {
		if s.term == nil || s.term.Op != api.TermDef {
			continue
		}
		var l []api.InferScheme
		channels, _, _ := term.Defines(*s.term)
		for _, c := range channels {
			k := p.of(d, c)
			scheme := api.InferScheme{Type: numbers.anew(k)}
			for v := range variables(k) {
				if p.general[d][v] {
					i := slices.Index(numbers, v)
					scheme.All = append(scheme.All, i)
					numbers[i] = -1 // it counts as another one in other types
				}
			}
			slices.Sort(scheme.All)
			l = append(l, scheme)
		}
		y.Defs = append(y.Defs, l)
	}
	return y
}

// numbering lists variables by the numbers that they have anew.
type numbering []int

func (l *numbering) anew(k api.InferType) api.InferType {
	if k.Op == api.InferVar {
		if !slices.Contains(*l, k.N) {
			*l = append(*l, k.N)
		}
		return api.InferType{Op: api.InferVar, N: slices.Index(*l, k.N)}
	}
	k.Kids = list(k.Kids, l.anew)
	return k
}

func nodesOf(k api.InferType) int {
	n := 1
	for _, kid := range k.Kids {
		n += nodesOf(kid)
	}
	return n
}

// matches reports whether types b are an instance of types a.
func matches(a, b []api.InferType) bool {
	is := map[int]string{}
	var match func(a, b api.InferType) bool
	match = func(a, b api.InferType) bool {
		if a.Op == api.InferVar {
			was, seen := is[a.N]
			is[a.N] = show(b)
			return !seen || was == show(b)
		}
		return a.Op == b.Op && slices.EqualFunc(a.Kids, b.Kids, match)
	}
	return slices.EqualFunc(a, b, match)
}
