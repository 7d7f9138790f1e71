package term

import (
	"iter"

	"cabotage/api"
)

// part is a process, an expression or a definition.
type part interface {
	// below goes through the parts of a part, in order.
	below(yield func(part) bool)
	// stands returns the name that stands in a part itself; "" if none does.
	stands() string
	// binds returns the names that a part binds in its parts, in order.
	binds() []string
}

type process struct{ api.Term }

type expression struct{ api.TermExp }

type clause struct{ api.TermClause }

func (t process) below(yield func(part) bool) {
	for _, e := range t.Args {
		if !yield(expression{e}) {
			return
		}
	}
	for _, c := range t.Defs {
		if !yield(clause{c}) {
			return
		}
	}
	for _, k := range t.Kids {
		if !yield(process{k}) {
			return
		}
	}
}

func (e expression) below(yield func(part) bool) {
	for _, k := range e.Kids {
		if !yield(expression{k}) {
			return
		}
	}
}

func (c clause) below(yield func(part) bool) {
	for _, d := range c.Defs {
		if !yield(clause{d}) {
			return
		}
	}
	for _, k := range c.Kids {
		if !yield(process{k}) {
			return
		}
	}
}

func (t process) stands() string { return t.Text }

func (e expression) stands() string { return e.Text }

// stands returns none: the Text of a place is where it is bound.
func (c clause) stands() string { return "" }

func (t process) binds() []string {
	channels, places := defines(t.Defs)
	return append(channels, places...)
}

func (e expression) binds() []string { return nil }

func (c clause) binds() []string {
	var names []string
	for _, m := range c.Joins {
		names = append(names, m.Names...)
	}
	return names
}

// nodes goes through the nodes of a part with their levels (1 for the part
// itself), a part before its parts.
func nodes(p part) iter.Seq2[int, part] {
	return func(yield func(int, part) bool) {
		var visit func(level int, p part) bool
		visit = func(level int, p part) bool {
			if !yield(level, p) {
				return false
			}
			for q := range p.below {
				if !visit(level+1, q) {
					return false
				}
			}
			return true
		}
		visit(1, p)
	}
}

// groups goes through the Defs of a TermDef, then through those of each of its
// places, with the place's name.
func groups(defs []api.TermClause) iter.Seq2[string, []api.TermClause] {
	return func(yield func(string, []api.TermClause) bool) {
		var visit func(name string, defs []api.TermClause) bool
		visit = func(name string, defs []api.TermClause) bool {
			if !yield(name, defs) {
				return false
			}
			for _, c := range defs {
				if c.Form == api.TermPlace && !visit(c.Text, c.Defs) {
					return false
				}
			}
			return true
		}
		visit("", defs)
	}
}

// defines returns the channels and the places of a TermDef with these Defs.
func defines(defs []api.TermClause) (channels, places []string) {
	seen := map[string]bool{}
	for name, group := range groups(defs) {
		if name != "" {
			places = append(places, name)
		}
		for _, c := range group {
			for _, m := range c.Joins {
				if !seen[m.Text] {
					seen[m.Text] = true
					channels = append(channels, m.Text)
				}
			}
		}
	}
	return channels, places
}
