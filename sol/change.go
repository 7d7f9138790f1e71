package sol

import (
	"slices"

	"cabotage/api"
	"cabotage/list"
)

// tooMuch is what a change panics with that would make too much of something.
type tooMuch struct{}

// change is a solution that is being changed, with what is seen of it.
type change struct {
	solution
	deeds  map[api.TermOp]deed
	events []api.SolEvent
}

// deed does a process at once. Like one that waits, it has a place, a node and an
// environment; it may keep the environment only as a copy.
type deed func(*change, api.SolWait)

// deeds returns what the kinds of processes do.
func deeds() map[api.TermOp]deed {
	return map[api.TermOp]deed{
		api.TermNil:   (*change).kids, // it has none
		api.TermSend:  (*change).send,
		api.TermPar:   (*change).kids,
		api.TermDef:   (*change).define,
		api.TermIf:    (*change).decide,
		api.TermGo:    (*change).wait,
		api.TermStop:  (*change).wait,
		api.TermWatch: (*change).wait,
	}
}

// changing returns a copy of a solution that can be changed, or ErrArg if the program
// or the solution is not formed.
func changing(p api.ScopeProg, s api.Sol) (*change, api.Errno) {
	q, e := lookInto(p, s)
	if e != api.OK {
		return nil, e
	}
	q.Sol = copied(s)
	return &change{solution: q, deeds: deeds()}, api.OK
}

func copied(s api.Sol) api.Sol {
	return api.Sol{
		Spots: slices.Clone(s.Spots),
		Groups: list.Each(s.Groups, func(g api.SolGroup) api.SolGroup {
			g.Env = slices.Clone(g.Env)
			return g
		}),
		Chans: list.Each(s.Chans, func(q api.SolQ) api.SolQ {
			q.Queue = list.Each(q.Queue, func(m api.SolMsg) api.SolMsg { return api.SolMsg{Vals: slices.Clone(m.Vals)} })
			return q
		}),
		Waits: list.Each(s.Waits, func(w api.SolWait) api.SolWait {
			w.Env = slices.Clone(w.Env)
			return w
		}),
	}
}

// after does something, and returns the solution then, and the events; or ErrLong
// alone if it is too much.
func (c *change) after(do func()) (_ api.Sol, _ []api.SolEvent, e api.Errno) {
	defer func() {
		if r := recover(); r != nil {
			if _, is := r.(tooMuch); !is {
				panic(r)
			}
			e = api.ErrLong
		}
	}()
	do()
	return c.Sol, c.events, api.OK
}

// atMost gives up if there is more of something than is allowed.
func atMost(n, most int) {
	if n > most {
		panic(tooMuch{})
	}
}

// begin does Main, in the place 0.
func (c *change) begin() {
	var env []api.SolVal
	for i := range c.Free {
		env = append(env, api.SolVal{Kind: api.SolFree, N: i})
	}
	c.process(api.SolWait{Node: c.Main, Env: env})
}

// run does steps by numbers.
func (c *change) run(picks []int) {
	for _, n := range picks {
		count := c.count()
		if count == 0 {
			return
		}
		c.step(c.nth(max(n, 0) % count))
	}
}

// step does one of the solution's steps.
func (c *change) step(x api.SolStep) {
	if x.Wait >= 0 {
		c.goOn(x.Wait)
		return
	}
	c.react(x)
}

func (c *change) see(x api.SolEvent) { c.events = append(c.events, x) }

// goOn lets a process go on that waits.
func (c *change) goOn(i int) {
	w := c.Waits[i]
	c.Waits = slices.Delete(c.Waits, i, i+1)
	n := c.Nodes[w.Node]
	switch n.Op {
	case api.TermGo:
		to := w.Env[n.N].N
		c.see(api.SolEvent{Deed: api.SolWent, At: w.At, N: to})
		c.Spots[w.At].In = to
	case api.TermStop:
		c.see(api.SolEvent{Deed: api.SolDied, At: w.At})
		c.die(w.At)
	case api.TermWatch:
		c.see(api.SolEvent{Deed: api.SolTold, At: w.At, N: w.Env[n.N].N})
	}
	c.kids(w)
}

// die lets a place die, with all that is within it.
func (c *change) die(place int) {
	for _, p := range within(c.Spots, place) {
		c.Spots[p].Dead = true
	}
	c.Waits = slices.DeleteFunc(c.Waits, func(w api.SolWait) bool { return c.Spots[w.At].Dead })
	for i, q := range c.Chans {
		if c.Spots[q.At].Dead {
			c.Chans[i].Queue = nil
		}
	}
}

// react lets a rule take its messages.
func (c *change) react(x api.SolStep) {
	rule := c.definition(x.Group).Rules[x.Rule]
	var vals []api.SolVal
	for i, n := range rule.Joins {
		q := &c.Chans[c.channel(x.Group, n)]
		pick := x.Picks[i]
		vals = append(vals, q.Queue[pick].Vals...)
		q.Queue = slices.Delete(q.Queue, pick, pick+1)
	}
	at, env := c.place(x.Group, rule.At), c.Groups[x.Group].Env
	c.see(api.SolEvent{Deed: api.SolTook, At: at, N: x.Group, M: x.Rule, Vals: vals})
	c.process(api.SolWait{At: at, Node: rule.Node, Env: slices.Concat(env, vals)})
}

// process does a process at once. What is done needs no count: a step does no node
// twice, and no program has more nodes than the api.SolWork that a step may do.
func (c *change) process(w api.SolWait) {
	c.deeds[c.Nodes[w.Node].Op](c, w)
}

func (c *change) kids(w api.SolWait) {
	for _, k := range c.Nodes[w.Node].Kids {
		c.process(api.SolWait{At: w.At, Node: k, Env: w.Env})
	}
}

func (c *change) send(w api.SolWait) {
	n := c.Nodes[w.Node]
	to := w.Env[n.N]
	vals := list.Each(n.Args, func(e api.ScopeExp) api.SolVal { return value(e, w.Env) })
	switch to.Kind {
	case api.SolFree:
		c.see(api.SolEvent{Deed: api.SolSaid, At: w.At, N: to.N, Vals: vals})
	case api.SolChan:
		q := &c.Chans[to.N]
		if !c.Spots[q.At].Dead && c.many(*q) == len(vals) {
			q.Queue = append(q.Queue, api.SolMsg{Vals: vals})
			atMost(len(q.Queue), api.SolQueue)
		}
	}
}

func (c *change) define(w api.SolWait) {
	n := c.Nodes[w.Node]
	d, g := c.Defs[n.N], len(c.Groups)
	env := slices.Concat(w.Env, owns(d, len(c.Chans), len(c.Spots)))
	c.Groups = append(c.Groups, api.SolGroup{Def: n.N, At: w.At, Env: env})
	for i, ch := range d.Chans {
		c.Chans = append(c.Chans, api.SolQ{Group: g, Index: i, At: c.place(g, ch.At)})
	}
	for _, s := range d.Spots {
		c.Spots = append(c.Spots, api.SolSpot{In: c.place(g, s.In)})
	}
	atMost(len(c.Groups), api.SolGroups)
	atMost(len(c.Chans), api.SolChans)
	atMost(len(c.Spots), api.SolSpots)
	for i, s := range d.Spots {
		c.process(api.SolWait{At: c.place(g, i+1), Node: s.Node, Env: env})
	}
	c.process(api.SolWait{At: w.At, Node: n.Kids[0], Env: env})
}

func (c *change) decide(w api.SolWait) {
	n := c.Nodes[w.Node]
	kid := n.Kids[1]
	if number(value(n.Args[0], w.Env)) != 0 {
		kid = n.Kids[0]
	}
	c.process(api.SolWait{At: w.At, Node: kid, Env: w.Env})
}

func (c *change) wait(w api.SolWait) {
	w.Env = slices.Clone(w.Env)
	c.Waits = append(c.Waits, w)
	atMost(len(c.Waits), api.SolWaits)
}
