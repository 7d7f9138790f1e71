package scope_test

import (
	"slices"

	"cabotage/api"
	"cabotage/term"
)

// The definitions of the chapter once more, read plainly and in another way than
// the package does: from each node upwards.

// above is where a node stands: in which node, as which one of its own (rules come
// first, then places, then Kids), and as which rule of its definition; -1 for none.
type above struct {
	node, own, rule int
}

// standing returns where each node stands, and whether each but Main stands just
// once, and Main nowhere.
func standing(p api.ScopeProg) (map[int]above, bool) {
	at, once := map[int]above{}, true
	for i, n := range p.Nodes {
		own := 0
		put := func(k, rule int) {
			if _, is := at[k]; is || k < 0 || k >= len(p.Nodes) || k == p.Main {
				once = false
			}
			at[k] = above{i, own, rule}
			own++
		}
		if n.Op == api.TermDef && n.N >= 0 && n.N < len(p.Defs) {
			for j, r := range p.Defs[n.N].Rules {
				put(r.Node, j)
			}
			for _, s := range p.Defs[n.N].Spots {
				put(s.Node, -1)
			}
		}
		for _, k := range n.Kids {
			put(k, -1)
		}
	}
	return at, once && len(at) == len(p.Nodes)-1
}

// plain is a program with the nodes from Main to each node, and the places at
// which they stand; nothing where there is no way up to Main.
type plain struct {
	api.ScopeProg
	at            map[int]above
	once          bool
	nodes, places [][]int
}

func newPlain(p api.ScopeProg) plain {
	q := plain{ScopeProg: p}
	q.at, q.once = standing(p)
	for n := range p.Nodes {
		nodes, places := []int{n}, []int(nil)
		for n != p.Main && len(nodes) <= len(p.Nodes) {
			places = append(places, q.at[n].own)
			n = q.at[n].node
			nodes = append(nodes, n)
		}
		if n != p.Main {
			nodes, places = nil, nil
		}
		slices.Reverse(nodes)
		slices.Reverse(places)
		q.nodes, q.places = append(q.nodes, nodes), append(q.places, places)
	}
	return q
}

// size returns the size of a node's environment.
func (p plain) size(n int) int {
	size := len(p.Free)
	for _, k := range p.nodes[n][1:] {
		up := p.Nodes[p.at[k].node]
		if up.Op != api.TermDef {
			continue
		}
		d := p.Defs[up.N]
		size += len(d.Chans) + len(d.Spots)
		if r := p.at[k].rule; r >= 0 {
			for _, c := range d.Rules[r].Joins {
				size += d.Chans[c].Many
			}
		}
	}
	return size
}

func isFormed(p api.ScopeProg) bool {
	if len(p.Free) > 12 || len(p.Nodes) > 60 || len(p.Defs) > 12 || p.Main < 0 || p.Main >= len(p.Nodes) {
		return false
	}
	for i, s := range p.Free {
		if !term.Name(s) || slices.Contains(p.Free[:i], s) {
			return false
		}
	}
	times := make([]int, len(p.Defs))
	for _, n := range p.Nodes {
		if !kindFits(p, n) {
			return false
		}
		if n.Op == api.TermDef {
			times[n.N]++
		}
	}
	for i, d := range p.Defs {
		if times[i] != 1 || !defFits(d) {
			return false
		}
	}
	q := newPlain(p)
	if !q.once || !slices.IsSorted(p.Free) || slices.ContainsFunc(q.nodes, func(l []int) bool { return l == nil }) {
		return false
	}
	for i, n := range p.Nodes {
		for _, k := range namesOf(n) {
			if k < 0 || k >= q.size(i) {
				return false
			}
		}
	}
	return true
}

func kindFits(p api.ScopeProg, n api.ScopeNode) bool {
	if n.Op < 1 || n.Op > 8 {
		return false
	}
	args := map[api.TermOp]int{api.TermIf: 1}[n.Op]
	kids := map[api.TermOp]int{api.TermPar: 2, api.TermDef: 1, api.TermIf: 2, api.TermGo: 1, api.TermWatch: 1}[n.Op]
	if len(n.Kids) != kids || len(n.Args) != args && (n.Op != api.TermSend || len(n.Args) > 3) {
		return false
	}
	if n.Op == api.TermDef && (n.N < 0 || n.N >= len(p.Defs)) {
		return false
	}
	if n.N != 0 && slices.Contains([]api.TermOp{api.TermNil, api.TermStop, api.TermPar, api.TermIf}, n.Op) {
		return false
	}
	for _, e := range n.Args {
		if nodes, depth := expFits(e, 1); nodes > 60 || depth > 12 {
			return false
		}
	}
	return true
}

// expFits returns how large an expression is: too large if something of it does
// not fit.
func expFits(e api.ScopeExp, level int) (nodes, depth int) {
	const wrong = 1000
	kids := 2
	switch {
	case e.Op < 1 || e.Op > 7 || level > 20:
		return wrong, wrong
	case e.Op == api.TermInt && (e.N > 1000000000 || e.N < -1000000000):
		return wrong, wrong
	case e.Op == api.TermInt, e.Op == api.TermName:
		kids = 0
	case e.N != 0:
		return wrong, wrong
	}
	if len(e.Kids) != kids {
		return wrong, wrong
	}
	nodes, depth = 1, level
	for _, k := range e.Kids {
		n, d := expFits(k, level+1)
		nodes, depth = nodes+n, max(depth, d)
	}
	return nodes, depth
}

func defFits(d api.ScopeDef) bool {
	if len(d.Chans) > 30 || len(d.Spots) > 30 || len(d.Rules) > 30 {
		return false
	}
	isPlace := func(n int) bool { return n >= 0 && n <= len(d.Spots) }
	for _, c := range d.Chans {
		if !isPlace(c.At) || c.Many < 0 || c.Many > 3 {
			return false
		}
	}
	for i, s := range d.Spots {
		if !isPlace(s.In) || s.In >= i+1 {
			return false
		}
	}
	var all []int
	for _, r := range d.Rules {
		if !isPlace(r.At) || len(r.Joins) < 1 || len(r.Joins) > 3 {
			return false
		}
		for i, c := range r.Joins {
			if c < 0 || c >= len(d.Chans) || slices.Contains(r.Joins[:i], c) || d.Chans[c].At != r.At {
				return false
			}
		}
		all = append(all, r.Joins...)
	}
	for c := range d.Chans {
		if !slices.Contains(all, c) {
			return false
		}
	}
	return true
}

// namesOf returns the places of an environment that stand in a node itself.
func namesOf(n api.ScopeNode) []int {
	var l []int
	if n.Op == api.TermSend || n.Op == api.TermGo || n.Op == api.TermWatch {
		l = append(l, n.N)
	}
	rest := slices.Clone(n.Args)
	for i := 0; i < len(rest); i++ {
		if rest[i].Op == api.TermName {
			l = append(l, rest[i].N)
		}
		rest = append(rest, rest[i].Kids...)
	}
	return l
}

func (p plain) below(n int) []int {
	var l []int
	for k := range p.Nodes {
		if slices.Contains(p.nodes[k], n) {
			l = append(l, k)
		}
	}
	return l
}

func (p plain) needs(n int) []int {
	var all, l []int
	for _, k := range p.below(n) {
		all = append(all, namesOf(p.Nodes[k])...)
	}
	for place := range p.size(n) {
		if slices.Contains(all, place) {
			l = append(l, place)
		}
	}
	return l
}

// ordered returns the nodes of a program in order.
func (p plain) ordered() []int {
	var l []int
	for i := range p.Nodes {
		l = append(l, i)
	}
	slices.SortFunc(l, func(a, b int) int { return slices.Compare(p.places[a], p.places[b]) })
	return l
}

func (p plain) inOrder() bool {
	nodes := p.ordered()
	var defs []int
	for _, n := range nodes {
		if p.Nodes[n].Op == api.TermDef {
			defs = append(defs, p.Nodes[n].N)
		}
	}
	if !slices.IsSorted(nodes) || !slices.IsSorted(defs) || len(p.needs(p.Main)) != len(p.Free) {
		return false
	}
	return !slices.ContainsFunc(p.Defs, func(d api.ScopeDef) bool { return !defInOrder(d) })
}

func defInOrder(d api.ScopeDef) bool {
	var stand []int // the channels, as they stand in the Joins
	for _, r := range d.Rules {
		stand = append(stand, r.Joins...)
	}
	chans := func(i int) []int { return []int{d.Chans[i].At, slices.Index(stand, i)} }
	for i := range len(d.Chans) - 1 {
		if slices.Compare(chans(i), chans(i+1)) > 0 {
			return false
		}
	}
	places := func(i int) []int { // from outside inwards
		l := []int{i + 1}
		for in := d.Spots[i].In; in > 0; in = d.Spots[in-1].In {
			l = append(l, in)
		}
		slices.Reverse(l)
		return l
	}
	for i := range len(d.Spots) - 1 {
		if slices.Compare(places(i), places(i+1)) > 0 {
			return false
		}
	}
	return slices.IsSortedFunc(d.Rules, func(a, b api.ScopeRule) int { return a.At - b.At })
}

// term returns the process for a program, formed or not.
func (p plain) term() api.Term {
	chosen := slices.Clone(p.Free)
	some := func(n int) []string {
		var l []string
		for range n {
			l = append(l, term.Fresh(chosen))
			chosen = append(chosen, l[len(l)-1])
		}
		return l
	}
	defined, env := map[int][]string{}, map[int][]string{p.Main: p.Free}
	for _, n := range p.ordered() {
		if n != p.Main {
			up := p.at[n].node
			env[n] = slices.Concat(env[up], defined[up])
			if r := p.at[n].rule; r >= 0 {
				d := p.Defs[p.Nodes[up].N]
				for _, c := range d.Rules[r].Joins {
					env[n] = slices.Concat(env[n], some(d.Chans[c].Many))
				}
			}
		}
		if p.Nodes[n].Op == api.TermDef {
			d := p.Defs[p.Nodes[n].N]
			defined[n] = some(len(d.Chans) + len(d.Spots))
		}
	}
	return p.process(env, p.Main)
}

func (p plain) process(env map[int][]string, i int) api.Term {
	n := p.Nodes[i]
	t := api.Term{Op: n.Op}
	if n.Op == api.TermSend || n.Op == api.TermGo || n.Op == api.TermWatch {
		t.Text = env[i][n.N]
	}
	for _, e := range n.Args {
		t.Args = append(t.Args, expOf(e, env[i]))
	}
	if n.Op == api.TermDef {
		t.Defs = p.clauses(env, p.Defs[n.N], env[n.Kids[0]], 0)
	}
	for _, k := range n.Kids {
		t.Kids = append(t.Kids, p.process(env, k))
	}
	return t
}

func expOf(e api.ScopeExp, env []string) api.TermExp {
	x := api.TermExp{Op: e.Op, N: e.N}
	if e.Op == api.TermName {
		x.Text, x.N = env[e.N], 0
	}
	for _, k := range e.Kids {
		x.Kids = append(x.Kids, expOf(k, env))
	}
	return x
}

// clauses returns what stands in a place of a definition; names are those of the
// environment in which its places are.
func (p plain) clauses(env map[int][]string, d api.ScopeDef, names []string, in int) []api.TermClause {
	own := names[len(names)-len(d.Chans)-len(d.Spots):]
	var l []api.TermClause
	for _, r := range d.Rules {
		if r.At != in {
			continue
		}
		c := api.TermClause{Form: api.TermRule, Kids: []api.Term{p.process(env, r.Node)}}
		values := env[r.Node][len(names):]
		for _, j := range r.Joins {
			many := d.Chans[j].Many
			c.Joins = append(c.Joins, api.TermMsg{Text: own[j], Names: values[:many]})
			values = values[many:]
		}
		l = append(l, c)
	}
	for i, s := range d.Spots {
		if s.In == in {
			c := api.TermClause{Form: api.TermPlace, Text: own[len(d.Chans)+i], Kids: []api.Term{p.process(env, s.Node)}}
			c.Defs = p.clauses(env, d, names, i+1)
			l = append(l, c)
		}
	}
	return l
}
