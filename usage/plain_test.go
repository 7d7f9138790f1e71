package usage_test

import (
	"slices"

	"cabotage/api"
)

// The definitions of the chapter once more, read plainly: sums and products stand in
// tables, environments are lists of what they denote, one for each node, and each
// count is asked for alone.

// channel is a channel of a definition; nothing: none that is known.
type channel struct{ def, index int }

var nothing = channel{-1, -1}

type plain struct {
	p    api.ScopeProg
	envs [][]channel
	at   []int // the TermDef of each definition
}

func newPlain(p api.ScopeProg) *plain {
	q := &plain{p, make([][]channel, len(p.Nodes)), make([]int, len(p.Defs))}
	q.enter(p.Main, slices.Repeat([]channel{nothing}, len(p.Free)))
	return q
}

func (q *plain) enter(n int, env []channel) {
	q.envs[n] = env
	at := q.p.Nodes[n]
	if at.Op == api.TermDef {
		d := q.p.Defs[at.N]
		q.at[at.N] = n
		env = slices.Clone(env)
		for i := range d.Chans {
			env = append(env, channel{at.N, i})
		}
		env = append(env, slices.Repeat([]channel{nothing}, len(d.Spots))...)
		for _, s := range d.Spots {
			q.enter(s.Node, env)
		}
		for _, r := range d.Rules {
			inner := slices.Clone(env)
			for _, c := range r.Joins {
				inner = append(inner, slices.Repeat([]channel{nothing}, d.Chans[c].Many)...)
			}
			q.enter(r.Node, inner)
		}
	}
	for _, k := range at.Kids {
		q.enter(k, env)
	}
}

// The counts are 0, 1, and 2 for many.
func sum(a, b int) int { return [3][3]int{{0, 1, 2}, {1, 2, 2}, {2, 2, 2}}[a][b] }

func product(a, b int) int { return [3][3]int{{0, 0, 0}, {0, 1, 2}, {0, 2, 2}}[a][b] }

func counted(k api.UsageKind) int {
	return map[api.UsageKind]int{api.UsageNever: 0, api.UsageOnce: 1, api.UsageMost: 1, api.UsageMany: 2}[k]
}

func kindOf(count int) api.UsageKind {
	return []api.UsageKind{api.UsageNever, api.UsageMost, api.UsageMany}[count]
}

func (q *plain) sends(t []api.UsageDef, n, to int) int {
	at := q.p.Nodes[n]
	switch at.Op {
	case api.TermSend:
		return q.message(t, n, to)
	case api.TermPar:
		return sum(q.sends(t, at.Kids[0], to), q.sends(t, at.Kids[1], to))
	case api.TermIf:
		return max(q.sends(t, at.Kids[0], to), q.sends(t, at.Kids[1], to))
	case api.TermGo, api.TermWatch:
		return q.sends(t, at.Kids[0], to)
	case api.TermDef:
		return q.inner(t, at.N, to)
	}
	return 0
}

func (q *plain) message(t []api.UsageDef, n, to int) int {
	at := q.p.Nodes[n]
	c := q.envs[n][at.N]
	if c != nothing && q.p.Defs[c.def].Chans[c.index].Many != len(at.Args) {
		return 0
	}
	count := 0
	if at.N == to {
		count = 1
	}
	for i, a := range at.Args {
		if a.Op != api.TermName || a.N != to {
			continue
		}
		if c == nothing {
			return 2
		}
		count = sum(count, counted(t[c.def].Args[c.index][i]))
	}
	return count
}

func (q *plain) inner(t []api.UsageDef, def, to int) int {
	d := q.p.Defs[def]
	count := q.sends(t, q.p.Nodes[q.at[def]].Kids[0], to)
	for _, s := range d.Spots {
		count = sum(count, q.sends(t, s.Node, to))
	}
	for i, r := range d.Rules {
		count = sum(count, product(counted(t[def].Rules[i]), q.sends(t, r.Node, to)))
	}
	return count
}

func (q *plain) sure(n, to int) int {
	at := q.p.Nodes[n]
	switch at.Op {
	case api.TermSend:
		if c := q.envs[n][to]; at.N == to && c != nothing && q.p.Defs[c.def].Chans[c.index].Many == len(at.Args) {
			return 1
		}
	case api.TermPar:
		return q.sure(at.Kids[0], to) + q.sure(at.Kids[1], to)
	case api.TermIf:
		return min(q.sure(at.Kids[0], to), q.sure(at.Kids[1], to))
	case api.TermDef:
		return q.innerSure(at.N, to)
	}
	return 0
}

func (q *plain) innerSure(def, to int) int {
	n := q.sure(q.p.Nodes[q.at[def]].Kids[0], to)
	for _, s := range q.p.Defs[def].Spots {
		n += q.sure(s.Node, to)
	}
	return n
}

// The parts of what a table has for a definition.
const (
	channels = iota
	rules
	values
)

// item is one thing of which a table has a kind.
type item struct{ def, part, index, value int }

func items(p api.ScopeProg) []item {
	var l []item
	for def, d := range p.Defs {
		for i := range d.Rules {
			l = append(l, item{def, rules, i, 0})
		}
		for i, c := range d.Chans {
			l = append(l, item{def, channels, i, 0})
			for j := range c.Many {
				l = append(l, item{def, values, i, j})
			}
		}
	}
	return l
}

// in is where a table has the kind.
func (i item) in(t []api.UsageDef) *api.UsageKind {
	switch i.part {
	case channels:
		return &t[i.def].Chans[i.index]
	case rules:
		return &t[i.def].Rules[i.index]
	}
	return &t[i.def].Args[i.index][i.value]
}

// must is what the count of an item must at least be.
func (q *plain) must(t []api.UsageDef, i item) int {
	d := q.p.Defs[i.def]
	around := len(q.envs[q.at[i.def]])
	switch i.part {
	case channels:
		return q.inner(t, i.def, around+i.index)
	case rules:
		least := 2
		for _, c := range d.Rules[i.index].Joins {
			least = min(least, counted(t[i.def].Chans[c]))
		}
		return least
	}
	most := 0
	for k, r := range d.Rules {
		n := slices.Index(r.Joins, i.index)
		if n < 0 || counted(t[i.def].Rules[k]) == 0 {
			continue
		}
		to := around + len(d.Chans) + len(d.Spots) + i.value
		for _, c := range r.Joins[:n] {
			to += d.Chans[c].Many
		}
		most = max(most, q.sends(t, r.Node, to))
	}
	return most
}

func (q *plain) accepts(t []api.UsageDef) bool {
	for _, i := range items(q.p) {
		k := *i.in(t)
		if counted(k) < q.must(t, i) || k == api.UsageOnce && q.innerSure(i.def, len(q.envs[q.at[i.def]])+i.index) != 1 {
			return false
		}
	}
	return true
}

// grown raises the counts of a table, one at a time, as long as one must be greater.
func (q *plain) grown(m *maker, t []api.UsageDef) []api.UsageDef {
	t = copied(t)
	l := items(q.p)
	for changed := true; changed; {
		changed = false
		for _, n := range m.Perm(len(l)) {
			if must := q.must(t, l[n]); counted(*l[n].in(t)) < must {
				*l[n].in(t) = kindOf(must)
				changed = true
			}
		}
	}
	return t
}

// table is the table of the program.
func (q *plain) table(m *maker) []api.UsageDef {
	var t []api.UsageDef
	for _, d := range q.p.Defs {
		u := api.UsageDef{Chans: never(len(d.Chans)), Rules: never(len(d.Rules))}
		for _, c := range d.Chans {
			u.Args = append(u.Args, never(c.Many))
		}
		t = append(t, u)
	}
	t = q.grown(m, t)
	for _, i := range items(q.p) {
		if i.part == channels && *i.in(t) == api.UsageMost && q.innerSure(i.def, len(q.envs[q.at[i.def]])+i.index) == 1 {
			*i.in(t) = api.UsageOnce
		}
	}
	return t
}

func never(n int) []api.UsageKind { return slices.Repeat([]api.UsageKind{api.UsageNever}, n) }
