package scope

import (
	"cabotage/api"
	"cabotage/term"
)

// unformed is what a program that is not formed panics with.
type unformed struct{}

// checker looks at the nodes of a program while they are walked through.
type checker struct {
	program
	sizes map[int]int  // of the environments of the nodes that were seen
	known map[int]bool // the definitions that were seen
}

// measure returns the size of the environment of each node, or ErrArg if the
// program is not formed.
func measure(p program) (sizes []int, e api.Errno) {
	defer func() {
		if r := recover(); r != nil {
			if _, is := r.(unformed); !is {
				panic(r)
			}
			sizes, e = nil, api.ErrArg
		}
	}()
	c := checker{program: p, sizes: map[int]int{}, known: map[int]bool{}}
	c.head()
	for n, size := range p.walk(p.Main, len(p.Free)) {
		c.visit(n, size)
	}
	// As none was met twice, each has now just one place where it stands.
	demand(len(c.sizes) == len(p.Nodes) && len(c.known) == len(p.Defs))
	for n := range p.Nodes {
		sizes = append(sizes, c.sizes[n])
	}
	return sizes, api.OK
}

// demand gives up a program that is not formed.
func demand(ok bool) {
	if !ok {
		panic(unformed{})
	}
}

func among(n, least, most int) bool { return least <= n && n <= most }

// head asks that there is not too much of anything, and that the Free are sorted
// names.
func (c *checker) head() {
	demand(len(c.Free) <= api.ScopeFree && len(c.Nodes) <= api.ScopeNodes && len(c.Defs) <= api.ScopeDefs)
	for i, s := range c.Free {
		demand(term.Name(s) && (i == 0 || c.Free[i-1] < s))
	}
}

// visit asks that a node is met for the first time, and is formed, and so its
// definition: only then its own nodes can be walked through.
func (c *checker) visit(n, size int) {
	_, seen := c.sizes[n]
	demand(among(n, 0, len(c.Nodes)-1) && !seen)
	c.sizes[n] = size
	at := c.Nodes[n]
	c.look(node{at}, size)
	for _, e := range at.Args {
		c.argument(e, size)
	}
	if at.Op == api.TermDef {
		demand(!c.known[at.N])
		c.known[at.N] = true
		c.definition(c.Defs[at.N])
	}
}

// argument gives up at the limits, as lists may contain themselves.
func (c *checker) argument(e api.ScopeExp, size int) {
	count := 0
	for level, q := range parts(expression{e}) {
		count++
		demand(level <= api.TermDepth && count <= api.ScopeNodes)
		c.look(q, size)
	}
}

// look asks that a part has what its kind may have, in an environment of a size.
func (c *checker) look(p part, size int) {
	switch q := p.(type) {
	case node:
		c.node(q.ScopeNode, size)
	case expression:
		c.expression(q.ScopeExp, size)
	}
}

func (c *checker) node(n api.ScopeNode, size int) {
	args, kids, most := 0, 0, 0
	switch n.Op {
	case api.TermNil, api.TermStop:
	case api.TermSend:
		args, most = min(len(n.Args), api.TermArgs), size-1
	case api.TermPar:
		kids = 2
	case api.TermDef:
		kids, most = 1, len(c.Defs)-1
	case api.TermIf:
		args, kids = 1, 2
	case api.TermGo, api.TermWatch:
		kids, most = 1, size-1
	default:
		panic(unformed{})
	}
	demand(len(n.Args) == args && len(n.Kids) == kids && among(n.N, 0, most))
}

func (c *checker) expression(e api.ScopeExp, size int) {
	kids, least, most := 0, 0, 0
	switch e.Op {
	case api.TermInt:
		least, most = -api.TermMost, api.TermMost
	case api.TermName:
		most = size - 1
	case api.TermAdd, api.TermSub, api.TermMul, api.TermLess, api.TermSame:
		kids = 2
	default:
		panic(unformed{})
	}
	demand(len(e.Kids) == kids && among(e.N, least, most))
}

// definition asks that a definition is formed, but for its nodes.
func (c *checker) definition(d api.ScopeDef) {
	demand(max(len(d.Chans), len(d.Spots), len(d.Rules)) <= api.ScopeParts)
	for _, ch := range d.Chans {
		demand(among(ch.At, 0, len(d.Spots)) && among(ch.Many, 0, api.TermArgs))
	}
	for i, s := range d.Spots {
		demand(among(s.In, 0, i)) // its own number is i + 1
	}
	joined := map[int]bool{}
	for _, r := range d.Rules {
		c.joins(d, r)
		for _, ch := range r.Joins {
			joined[ch] = true
		}
	}
	demand(len(joined) == len(d.Chans))
}

// joins asks that a rule takes messages of channels of its own place, which shows
// that this is a place.
func (c *checker) joins(d api.ScopeDef, r api.ScopeRule) {
	demand(among(len(r.Joins), 1, api.TermJoins))
	here := map[int]bool{}
	for _, ch := range r.Joins {
		demand(among(ch, 0, len(d.Chans)-1) && !here[ch] && d.Chans[ch].At == r.At)
		here[ch] = true
	}
}
