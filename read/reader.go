package read

import (
	"cmp"
	"slices"
	"strconv"
	"strings"

	"cabotage/api"
)

// reader reads processes and expressions. It has a method for each line of the
// grammar.
type reader struct {
	row
	spots []api.ReadSpot // of the nodes, in the order in which they were read
}

func newReader(l []api.ReadToken, end api.ReadToken) *reader {
	return &reader{row: row{list: l, end: end}}
}

// whole reads all tokens of a reader as one thing; ok is false where that goes
// wrong.
func whole[T any](r *reader, read func() T) (what T, at api.ReadFault, ok bool) {
	defer func() {
		switch gave := recover().(type) {
		case nil:
		case fault:
			at = api.ReadFault(gave)
		default:
			panic(gave)
		}
	}()
	t := read()
	if !r.ended() {
		r.fail()
	}
	return t, at, true
}

// several reads one thing or more, with a sign or a word between them.
func several[T any](r *reader, sign string, one func() T) []T {
	l := []T{one()}
	for r.take(sign) {
		l = append(l, one())
	}
	return l
}

// until reads things likewise, or none of them if there is the token that goes
// behind them, which is read too.
func until[T any](r *reader, last, sign string, one func() T) []T {
	var l []T
	if !r.is(last) && !r.ended() {
		l = several(r, sign, one)
	}
	r.need(last)
	return l
}

// spot says that a node goes from a byte to the last token that was read.
func (r *reader) spot(from int) {
	r.spots = append(r.spots, api.ReadSpot{From: from, To: r.behind})
}

// inOrder returns spots with each node before its parts: of those that begin
// together, a node is longer than its parts.
func inOrder(l []api.ReadSpot) []api.ReadSpot {
	slices.SortFunc(l, func(a, b api.ReadSpot) int {
		return cmp.Or(cmp.Compare(a.From, b.From), cmp.Compare(b.To, a.To))
	})
	return l
}

func (r *reader) process() api.Term {
	from := r.peek().At
	var t api.Term
	switch {
	case r.take("def"):
		t = r.definition()
	case r.take("if"):
		t = r.choice()
	case r.take("go"):
		t = r.headed(api.TermGo)
	case r.take("watch"):
		t = r.headed(api.TermWatch)
	default:
		t = r.item()
		if !r.take("|") {
			return t
		}
		t = api.Term{Op: api.TermPar, Kids: []api.Term{t}}
		t.Kids = append(t.Kids, r.process())
	}
	r.spot(from)
	return t
}

func (r *reader) definition() api.Term {
	t := api.Term{Op: api.TermDef}
	t.Defs = several(r, "and", r.clause)
	r.need("in")
	t.Kids = []api.Term{r.process()}
	return t
}

func (r *reader) choice() api.Term {
	t := api.Term{Op: api.TermIf}
	t.Args = []api.TermExp{r.exp()}
	r.need("then")
	t.Kids = append(t.Kids, r.process())
	r.need("else")
	t.Kids = append(t.Kids, r.process())
	return t
}

// headed reads what is behind go or watch.
func (r *reader) headed(op api.TermOp) api.Term {
	t := api.Term{Op: op, Text: r.name()}
	r.need(";")
	t.Kids = []api.Term{r.process()}
	return t
}

func (r *reader) item() api.Term {
	from := r.peek().At
	if r.take("(") {
		t := r.process()
		r.need(")")
		return t
	}
	t := api.Term{Op: api.TermNil}
	switch {
	case r.take("stop"):
		t.Op = api.TermStop
	case r.peek().Kind == api.ReadName:
		t = api.Term{Op: api.TermSend, Text: r.name()}
		r.need("(")
		t.Args = until(r, ")", ",", r.exp)
	default:
		r.need("0")
	}
	r.spot(from)
	return t
}

func (r *reader) clause() api.TermClause {
	from := r.peek().At
	var c api.TermClause
	if r.take("place") {
		c = r.place()
	} else {
		c = r.rule()
	}
	r.spot(from)
	return c
}

// place reads what is behind place.
func (r *reader) place() api.TermClause {
	c := api.TermClause{Form: api.TermPlace, Text: r.name()}
	r.need("{")
	c.Defs = until(r, "in", "and", r.clause)
	c.Kids = []api.Term{r.process()}
	r.need("}")
	return c
}

func (r *reader) rule() api.TermClause {
	c := api.TermClause{Form: api.TermRule}
	c.Joins = several(r, "&", func() api.TermMsg {
		m := api.TermMsg{Text: r.name()}
		r.need("(")
		m.Names = until(r, ")", ",", r.name)
		return m
	})
	r.need("=")
	c.Kids = []api.Term{r.process()}
	return c
}

func (r *reader) exp() api.TermExp {
	from := r.peek().At
	e := r.sum()
	if r.is("<", "==") {
		e = r.operation(from, e, r.sum)
	}
	return e
}

func (r *reader) sum() api.TermExp { return r.leftwards(r.product, "+", "-") }

func (r *reader) product() api.TermExp { return r.leftwards(r.atom, "*") }

// leftwards reads operands with signs between them, which go to the left.
func (r *reader) leftwards(operand func() api.TermExp, signs ...string) api.TermExp {
	from := r.peek().At
	e := operand()
	for r.is(signs...) {
		e = r.operation(from, e, operand)
	}
	return e
}

// operation reads a sign and an operand behind an expression.
func (r *reader) operation(from int, left api.TermExp, operand func() api.TermExp) api.TermExp {
	sign := r.shift().Text
	right := operand()
	r.spot(from)
	return api.TermExp{Op: bySign(sign).op, Kids: []api.TermExp{left, right}}
}

func (r *reader) atom() api.TermExp {
	from := r.peek().At
	if r.take("(") {
		e := r.exp()
		r.need(")")
		return e
	}
	e := api.TermExp{Op: api.TermInt}
	switch r.peek().Kind {
	case api.ReadName:
		e = api.TermExp{Op: api.TermName, Text: r.name()}
	case api.ReadInt:
		e.N = number(r.shift().Text)
	default:
		r.lack("0")
	}
	r.spot(from)
	return e
}

// number returns the number of an integer. Where an int cannot hold it, strconv
// returns the nearest one, which is too large for a term as well.
func number(text string) int {
	n, _ := strconv.Atoi(strings.Replace(text, "~", "-", 1))
	return n
}
