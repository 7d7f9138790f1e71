package read

import (
	"strconv"
	"strings"

	"cabotage/api"
	"cabotage/term"
)

// Levels of expressions: one stands in brackets where a higher level is asked.
const (
	compared = iota
	summed
	multiplied
	single
)

// operator is a sign between two expressions.
type operator struct {
	sign  string
	op    api.TermSign
	level int
}

var operators = [...]operator{
	{"<", api.TermLess, compared},
	{"==", api.TermSame, compared},
	{"+", api.TermAdd, summed},
	{"-", api.TermSub, summed},
	{"*", api.TermMul, multiplied},
}

func bySign(sign string) operator {
	for _, o := range operators {
		if o.sign == sign {
			return o
		}
	}
	return operator{level: single}
}

func byOp(op api.TermSign) operator {
	for _, o := range operators {
		if o.op == op {
			return o
		}
	}
	return operator{level: single}
}

// writer collects the tokens of a source.
type writer struct {
	texts []string
}

func (w *writer) put(texts ...string) { w.texts = append(w.texts, texts...) }

// source returns the tokens with as few blanks as a printed source has.
func (w *writer) source() string {
	var out strings.Builder
	for i, s := range w.texts {
		if i > 0 && apart(w.texts[i-1], s) {
			out.WriteByte(' ')
		}
		out.WriteString(s)
	}
	return out.String()
}

// apart reports whether there is a blank between two tokens.
func apart(a, b string) bool {
	switch b {
	case ")", ",", ";":
		return false
	case "(":
		return a != "(" && !term.Name(a)
	}
	return a != "("
}

// separated writes things with a token between them.
func separated[T any](w *writer, sign string, l []T, one func(T)) {
	for i, x := range l {
		if i > 0 {
			w.put(sign)
		}
		one(x)
	}
}

func (w *writer) process(t api.Term) {
	switch t.Op {
	case api.TermNil:
		w.put("0")
	case api.TermStop:
		w.put("stop")
	case api.TermSend:
		w.put(t.Text, "(")
		separated(w, ",", t.Args, w.free)
		w.put(")")
	case api.TermPar:
		w.item(t.Kids[0])
		w.put("|")
		w.process(t.Kids[1])
	case api.TermDef:
		w.put("def")
		separated(w, "and", t.Defs, w.clause)
		w.put("in")
		w.process(t.Kids[0])
	case api.TermIf:
		w.put("if")
		w.free(t.Args[0])
		w.put("then")
		w.process(t.Kids[0])
		w.put("else")
		w.process(t.Kids[1])
	case api.TermGo:
		w.headed("go", t)
	case api.TermWatch:
		w.headed("watch", t)
	}
}

func (w *writer) headed(word string, t api.Term) {
	w.put(word, t.Text, ";")
	w.process(t.Kids[0])
}

// item writes a process in front of a |.
func (w *writer) item(t api.Term) {
	switch t.Op {
	case api.TermNil, api.TermStop, api.TermSend:
		w.process(t)
	default:
		w.put("(")
		w.process(t)
		w.put(")")
	}
}

func (w *writer) clause(c api.TermClause) {
	if c.Form == api.TermPlace {
		w.put("place", c.Text, "{")
		separated(w, "and", c.Defs, w.clause)
		w.put("in")
		w.process(c.Kids[0])
		w.put("}")
		return
	}
	separated(w, "&", c.Joins, w.join)
	w.put("=")
	w.process(c.Kids[0])
}

func (w *writer) join(m api.TermMsg) {
	w.put(m.Text, "(")
	separated(w, ",", m.Names, func(s string) { w.put(s) })
	w.put(")")
}

// free writes an expression where no brackets are needed.
func (w *writer) free(e api.TermExp) { w.exp(e, compared) }

// exp writes an expression where a level is asked.
func (w *writer) exp(e api.TermExp, level int) {
	o := byOp(e.Op)
	switch {
	case e.Op == api.TermInt:
		w.put(strings.Replace(strconv.Itoa(e.N), "-", "~", 1))
	case e.Op == api.TermName:
		w.put(e.Text)
	case o.level < level:
		w.put("(")
		w.exp(e, compared)
		w.put(")")
	default:
		// What goes to the left can begin with its own level; comparisons do not.
		w.exp(e.Kids[0], max(o.level, summed))
		w.put(o.sign)
		w.exp(e.Kids[1], o.level+1)
	}
}
