package term

import "cabotage/api"

// unformed is what a part that is not formed panics with.
type unformed struct{}

// extent is how large a part is.
type extent struct {
	nodes, depth int
}

// has is what a part has, next to its kind.
type has struct {
	text                    bool
	args, joins, defs, kids int
}

// checker looks at the nodes of a part.
type checker struct {
	extent
	words map[string]bool
}

// measure returns how large a part is, or ErrArg if it is not formed.
func measure(p part) (size extent, e api.Errno) {
	defer func() {
		if r := recover(); r != nil {
			if _, is := r.(unformed); !is {
				panic(r)
			}
			size, e = extent{}, api.ErrArg
		}
	}()
	c := checker{words: keywords()}
	for level, q := range nodes(p) {
		c.grow(level)
		c.look(q)
	}
	// Only now: what a TermDef defines may stand deep within it.
	for _, q := range nodes(p) {
		if t, is := q.(process); is && t.Op == api.TermDef {
			defined(t.Defs)
		}
	}
	return c.extent, api.OK
}

// demand gives up a part that is not formed.
func demand(ok bool) {
	if !ok {
		panic(unformed{})
	}
}

// grow counts a node. It gives up at the limits, as lists may contain
// themselves.
func (c *checker) grow(level int) {
	c.nodes++
	c.depth = max(c.depth, level)
	demand(c.nodes <= api.TermNodes && c.depth <= api.TermDepth)
}

// look asks that a node has what its kind may have.
func (c *checker) look(p part) {
	switch q := p.(type) {
	case process:
		c.process(q.Term)
	case expression:
		c.expression(q.TermExp)
	case clause:
		c.clause(q.TermClause)
	}
}

func (c *checker) process(t api.Term) {
	var want has
	switch t.Op {
	case api.TermNil, api.TermStop:
	case api.TermSend:
		want = has{text: true, args: within(len(t.Args), 0, api.TermArgs)}
	case api.TermPar:
		want = has{kids: 2}
	case api.TermDef:
		want = has{defs: within(len(t.Defs), 1, api.TermDefs), kids: 1}
	case api.TermIf:
		want = has{args: 1, kids: 2}
	case api.TermGo, api.TermWatch:
		want = has{text: true, kids: 1}
	default:
		panic(unformed{})
	}
	got := has{text: t.Text != "", args: len(t.Args), defs: len(t.Defs), kids: len(t.Kids)}
	c.agree(got, want, t.Text)
}

func (c *checker) expression(e api.TermExp) {
	var want has
	least, most := 0, 0
	switch e.Op {
	case api.TermInt:
		least, most = -api.TermMost, api.TermMost
	case api.TermName:
		want = has{text: true}
	case api.TermAdd, api.TermSub, api.TermMul, api.TermLess, api.TermSame:
		want = has{kids: 2}
	default:
		panic(unformed{})
	}
	demand(e.N == within(e.N, least, most))
	c.agree(has{text: e.Text != "", kids: len(e.Kids)}, want, e.Text)
}

func (c *checker) clause(d api.TermClause) {
	var want has
	switch d.Form {
	case api.TermRule:
		want = has{joins: within(len(d.Joins), 1, api.TermJoins), kids: 1}
	case api.TermPlace:
		want = has{text: true, defs: within(len(d.Defs), 0, api.TermDefs), kids: 1}
	default:
		panic(unformed{})
	}
	got := has{text: d.Text != "", joins: len(d.Joins), defs: len(d.Defs), kids: len(d.Kids)}
	c.agree(got, want, d.Text)
	c.joins(d.Joins)
}

// joins asks that the channels of a rule differ, and all names of its messages.
func (c *checker) joins(l []api.TermMsg) {
	channels, names := map[string]bool{}, map[string]bool{}
	for _, m := range l {
		demand(c.named(m.Text) && !channels[m.Text] && len(m.Names) <= api.TermArgs)
		channels[m.Text] = true
		for _, s := range m.Names {
			demand(c.named(s) && !names[s])
			names[s] = true
		}
	}
}

// agree asks that a part has what it may have, and that its Text is a name.
func (c *checker) agree(got, want has, text string) {
	demand(got == want && (!want.text || c.named(text)))
}

func (c *checker) named(s string) bool { return spelt(s) && !c.words[s] }

// within returns the number from least to most that is nearest to n.
func within(n, least, most int) int { return min(max(n, least), most) }

// defined asks that a TermDef with these Defs defines each name once: a channel
// by rules beside each other, with as many names in each join.
func defined(defs []api.TermClause) {
	// The group of a channel is told by the name of its place, as places differ.
	type home struct {
		place string
		names int
	}
	channels, places := map[string]home{}, map[string]bool{}
	for place, group := range groups(defs) {
		demand(!places[place])
		places[place] = true
		for _, c := range group {
			for _, m := range c.Joins {
				is := home{place, len(m.Names)}
				was, seen := channels[m.Text]
				demand(!seen || was == is)
				channels[m.Text] = is
			}
		}
	}
	for name := range channels {
		demand(!places[name])
	}
}
