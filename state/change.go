package state

import (
	"slices"

	"cabotage/api"
)

// tooMuch is what a change panics with that would make too much of something.
type tooMuch struct{}

// Change is a solution that is being changed, with what is seen of it. Nothing else
// has its memory.
type Change struct {
	Solution
	Events []api.SolEvent
}

// Process does a process at once. Like one that waits, it has a place, a node and an
// environment, of which only copies may be kept.
type Process func(api.SolWait)

// After does something, and returns the solution then, and the events; or ErrLong
// alone if it is too much.
func (c *Change) After(do func()) (_ api.Sol, _ []api.SolEvent, e api.Errno) {
	defer func() {
		if r := recover(); r != nil {
			if _, is := r.(tooMuch); !is {
				panic(r)
			}
			e = api.ErrLong
		}
	}()
	do()
	return c.Sol, c.Events, api.OK
}

// atMost gives up if there is more of something than is allowed.
func atMost(n, most int) {
	if n > most {
		panic(tooMuch{})
	}
}

func (c *Change) see(x api.SolEvent) { c.Events = append(c.Events, x) }

// Run does steps by numbers.
func (c *Change) Run(picks []int, process Process) {
	for _, n := range picks {
		count := c.Count()
		if count == 0 {
			return
		}
		x, _ := c.Nth(max(n, 0) % count)
		c.Do(x, process)
	}
}

// Do does a step, one of the solution's.
func (c *Change) Do(x api.SolStep, process Process) {
	if x.Wait >= 0 {
		c.goOn(x.Wait, process)
		return
	}
	c.react(x, process)
}

// goOn lets a process go on that waits.
func (c *Change) goOn(i int, process Process) {
	w := c.Waits[i]
	c.Waits = slices.Delete(c.Waits, i, i+1)
	n := c.Nodes[w.Node]
	switch n.Op {
	case api.TermGo:
		to := w.Env[n.N].N
		c.see(api.SolEvent{Deed: api.SolWent, At: w.At, N: to})
		c.Spots[w.At].In = to
	case api.TermStop:
		c.see(api.SolEvent{Deed: api.SolDied, At: w.At})
		c.die(w.At)
	case api.TermWatch:
		c.see(api.SolEvent{Deed: api.SolTold, At: w.At, N: w.Env[n.N].N})
	}
	for _, k := range n.Kids {
		process(api.SolWait{At: w.At, Node: k, Env: w.Env})
	}
}

// die lets a place die, with all that is within it.
func (c *Change) die(place int) {
	for _, p := range Within(c.Spots, place) {
		c.Spots[p].Dead = true
	}
	c.Waits = slices.DeleteFunc(c.Waits, func(w api.SolWait) bool { return c.Spots[w.At].Dead })
	for i, q := range c.Chans {
		if c.Spots[q.At].Dead {
			c.Chans[i].Queue = nil
		}
	}
}

// react lets a rule take its messages.
func (c *Change) react(x api.SolStep, process Process) {
	rule := c.Definition(x.Group).Rules[x.Rule]
	var vals []api.SolVal
	for i, n := range rule.Joins {
		q := &c.Chans[c.Channel(x.Group, n)]
		pick := x.Picks[i]
		vals = append(vals, q.Queue[pick].Vals...)
		q.Queue = slices.Delete(q.Queue, pick, pick+1)
	}
	at, env := c.Place(x.Group, rule.At), c.Groups[x.Group].Env
	c.see(api.SolEvent{Deed: api.SolTook, At: at, N: x.Group, M: x.Rule, Vals: vals})
	process(api.SolWait{At: at, Node: rule.Node, Env: slices.Concat(env, vals)})
}

// Send says something from a place, if the value to which it is sent is a free name, or
// sends it as a message, which may be lost. It keeps the values.
func (c *Change) Send(at int, to api.SolVal, vals []api.SolVal) {
	switch to.Kind {
	case api.SolFree:
		c.see(api.SolEvent{Deed: api.SolSaid, At: at, N: to.N, Vals: vals})
	case api.SolChan:
		q := &c.Chans[to.N]
		if !c.Spots[q.At].Dead && c.Many(*q) == len(vals) {
			q.Queue = append(q.Queue, api.SolMsg{Vals: vals})
			atMost(len(q.Queue), api.SolQueue)
		}
	}
}

// Make makes a group of a definition in a place, with an environment in front of its
// own channels and places, and returns these. It keeps no environment.
func (c *Change) Make(def, at int, env []api.SolVal) []api.SolVal {
	d, g := c.Defs[def], len(c.Groups)
	own := Own(d, len(c.Chans), len(c.Spots))
	c.Groups = append(c.Groups, api.SolGroup{Def: def, At: at, Env: slices.Concat(env, own)})
	for i, ch := range d.Chans {
		c.Chans = append(c.Chans, api.SolQ{Group: g, Index: i, At: c.Place(g, ch.At)})
	}
	for _, s := range d.Spots {
		c.Spots = append(c.Spots, api.SolSpot{In: c.Place(g, s.In)})
	}
	atMost(len(c.Groups), api.SolGroups)
	atMost(len(c.Chans), api.SolChans)
	atMost(len(c.Spots), api.SolSpots)
	return own
}

// Wait lets a process wait. It keeps the environment.
func (c *Change) Wait(w api.SolWait) {
	c.Waits = append(c.Waits, w)
	atMost(len(c.Waits), api.SolWaits)
}
