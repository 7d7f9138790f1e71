package read_test

import (
	"math/rand/v2"
	"regexp"
	"slices"
	"strconv"
	"strings"
	"testing"

	"cabotage/api"
	"cabotage/read"
)

// The source T of the chapter.
const example = "def x(a) & y() = z(a, b) // both\nand place p { in go q; x(1) } in y() | watch p; 0\n"

// T in one line, as it is printed.
const printed = "def x(a) & y() = z(a, b) and place p { in go q; x(1) } in y() | watch p; 0"

// The grammar of the chapter, with lists as lines of their own.
const grammar = `
process = def clauses in process / if exp then process else process / go name ; process / watch name ; process / item / item | process
item = 0 / stop / name ( ) / name ( exps ) / ( process )
clauses = clause / clause and clauses
clause = joins = process / place name { in process } / place name { clauses in process }
joins = join / join & joins
join = name ( ) / name ( names )
names = name / name , names
exps = exp / exp , exps
exp = sum / sum < sum / sum == sum
sum = product / sum + product / sum - product
product = atom / product * atom
atom = int / name / ( exp )
`

var (
	keywords = strings.Fields("and def else go if in place stop then watch")
	signs    = strings.Fields("( ) { } , ; | & = == < + - *")
	puts     = slices.Concat([]string{"0", "a"}, keywords, signs)
	nameText = regexp.MustCompile(`^[a-z]{1,8}$`)
	intText  = regexp.MustCompile(`^(0|~?[1-9][0-9]{0,9})$`)
)

// lines are the possibilities of each line of the grammar.
func lines() map[string][][]string {
	all := map[string][][]string{}
	for _, line := range strings.Split(strings.TrimSpace(grammar), "\n") {
		left, right, _ := strings.Cut(line, " = ")
		for _, s := range strings.Split(right, " / ") {
			all[left] = append(all[left], strings.Fields(s))
		}
	}
	return all
}

func isName(s string) bool { return nameText.MatchString(s) && !slices.Contains(keywords, s) }

func isInt(s string) bool { return intText.MatchString(s) }

// matches reports whether a token is what the grammar asks.
func matches(asked, token string) bool {
	switch asked {
	case "name":
		return isName(token)
	case "int":
		return isInt(token)
	}
	return asked == token
}

// possible is a possibility of a line of the grammar that was begun behind some
// tokens, and how much of it stands there.
type possible struct {
	line       string
	which, dot int
	from       int
}

// chart is an Earley chart: behind each token the possibilities that are open. It
// tells what can be derived without reading it.
type chart struct {
	lines map[string][][]string
	open  [][]possible
}

func newChart(start string) *chart {
	c := &chart{lines: lines(), open: [][]possible{nil}}
	c.begin(0, start)
	c.close()
	return c
}

func (c *chart) add(at int, p possible) {
	if !slices.Contains(c.open[at], p) {
		c.open[at] = append(c.open[at], p)
	}
}

func (c *chart) begin(at int, line string) {
	for i := range c.lines[line] {
		c.add(at, possible{line: line, which: i, from: at})
	}
}

// asks returns what comes next in a possibility; nothing if it is complete.
func (c *chart) asks(p possible) string {
	if l := c.lines[p.line][p.which]; p.dot < len(l) {
		return l[p.dot]
	}
	return ""
}

func (c *chart) close() {
	at := len(c.open) - 1
	for i := 0; i < len(c.open[at]); i++ {
		p := c.open[at][i]
		if s := c.asks(p); s != "" {
			c.begin(at, s)
			continue
		}
		for _, q := range c.open[p.from] {
			if c.asks(q) == p.line {
				q.dot++
				c.add(at, q)
			}
		}
	}
}

// push puts a token behind those that there are, and reports whether they are a
// beginning; if not, the chart stays as it was.
func (c *chart) push(token string) bool {
	var next []possible
	for _, p := range c.open[len(c.open)-1] {
		s := c.asks(p)
		if _, is := c.lines[s]; s != "" && !is && matches(s, token) {
			p.dot++
			next = append(next, p)
		}
	}
	if next == nil {
		return false
	}
	c.open = append(c.open, next)
	c.close()
	return true
}

func (c *chart) pop() { c.open = c.open[:len(c.open)-1] }

// derived reports whether the tokens so far can be derived.
func (c *chart) derived(start string) bool {
	return slices.ContainsFunc(c.open[len(c.open)-1], func(p possible) bool {
		return p.line == start && p.from == 0 && c.asks(p) == ""
	})
}

// begins returns how many of the tokens are a beginning, and whether all can be
// derived.
func begins(start string, tokens []string) (int, bool) {
	c := newChart(start)
	for i, s := range tokens {
		if !c.push(s) {
			return i, false
		}
	}
	return len(tokens), c.derived(start)
}

// maker makes sources by chance.
type maker struct {
	*rand.Rand
	lines map[string][][]string
}

func newMaker(seed uint64) *maker {
	return &maker{rand.New(rand.NewPCG(seed, 2)), lines()}
}

// derive returns tokens that can be derived.
func (m *maker) derive(line string, depth int) []string {
	l, is := m.lines[line]
	switch {
	case line == "name":
		return []string{[]string{"a", "b", "c", "x", "y", "z", "p", "q"}[m.IntN(8)]}
	case line == "int":
		return []string{[]string{"0", "1", "~2", "345", "~1000000000"}[m.IntN(5)]}
	case !is:
		return []string{line}
	}
	which := m.IntN(len(l))
	if depth <= 0 {
		which = map[string]int{"process": 4}[line]
	}
	var out []string
	for _, s := range l[which] {
		out = append(out, m.derive(s, depth-1)...)
	}
	return out
}

// process returns at most so many tokens of a process.
func (m *maker) process(most int) []string {
	for {
		if l := m.derive("process", 1+m.IntN(12)); len(l) <= most {
			return l
		}
	}
}

// spoilt changes some of the tokens.
func (m *maker) spoilt(l []string) []string {
	l = slices.Clone(l)
	for range 1 + m.IntN(2) {
		at := m.IntN(len(l) + 1)
		s := puts[m.IntN(len(puts))]
		switch {
		case m.IntN(3) == 0:
			l = slices.Insert(l, at, s)
		case at == len(l):
			l = l[:at/2]
		case m.IntN(2) == 0:
			l = slices.Delete(l, at, at+1)
		default:
			l[at] = s
		}
	}
	return l
}

// spread writes tokens with other blanks between them.
func (m *maker) spread(l []string) string {
	var out strings.Builder
	gap := func(need bool) {
		gaps := []string{"", " ", "\n", "\t ", "// and (\n", " //\n\n ", "  "}
		i := m.IntN(len(gaps))
		if need && i == 0 {
			i++
		}
		out.WriteString(gaps[i])
	}
	gap(false)
	for i, s := range l {
		out.WriteString(s)
		gap(i+1 < len(l) && sticks(s, l[i+1]))
	}
	return out.String()
}

// sticks reports whether two tokens without a blank between them would be read as
// others.
func sticks(a, b string) bool {
	word := regexp.MustCompile(`[a-z]$`)
	number := regexp.MustCompile(`[0-9]$`)
	return word.MatchString(a) && word.MatchString(b[:1]) || number.MatchString(a) && number.MatchString(b[:1]) || a == "=" && b[0] == '='
}

// text writes a process with all brackets that there could be.
func text(t api.Term) string {
	return bracket(strconv.Itoa(int(t.Op)), t.Text, bracket(list(t.Args, expText)...), bracket(list(t.Defs, clauseText)...), bracket(list(t.Kids, text)...))
}

func expText(e api.TermExp) string {
	return bracket(strconv.Itoa(int(e.Op)), strconv.Itoa(e.N), e.Text, bracket(list(e.Kids, expText)...))
}

func clauseText(c api.TermClause) string {
	joins := list(c.Joins, func(m api.TermMsg) string { return bracket(m.Text, bracket(m.Names...)) })
	return bracket(strconv.Itoa(int(c.Form)), c.Text, bracket(joins...), bracket(list(c.Defs, clauseText)...), bracket(list(c.Kids, text)...))
}

func bracket(l ...string) string { return "(" + strings.Join(l, ",") + ")" }

func list[A, B any](l []A, f func(A) B) []B {
	var out []B
	for _, a := range l {
		out = append(out, f(a))
	}
	return out
}

func name(s string) api.TermExp { return api.TermExp{Op: api.TermName, Text: s} }

func num(n int) api.TermExp { return api.TermExp{Op: api.TermInt, N: n} }

func exp(op api.TermSign, kids ...api.TermExp) api.TermExp { return api.TermExp{Op: op, Kids: kids} }

func node(op api.TermOp, kids ...api.Term) api.Term { return api.Term{Op: op, Kids: kids} }

func send(s string, args ...api.TermExp) api.Term {
	return api.Term{Op: api.TermSend, Text: s, Args: args}
}

func headed(op api.TermOp, s string, kid api.Term) api.Term {
	return api.Term{Op: op, Text: s, Kids: []api.Term{kid}}
}

func when(e api.TermExp, a, b api.Term) api.Term {
	return api.Term{Op: api.TermIf, Args: []api.TermExp{e}, Kids: []api.Term{a, b}}
}

func join(s string, names ...string) api.TermMsg { return api.TermMsg{Text: s, Names: names} }

func rule(body api.Term, joins ...api.TermMsg) api.TermClause {
	return api.TermClause{Form: api.TermRule, Joins: joins, Kids: []api.Term{body}}
}

func place(s string, body api.Term, defs ...api.TermClause) api.TermClause {
	return api.TermClause{Form: api.TermPlace, Text: s, Defs: defs, Kids: []api.Term{body}}
}

func def(body api.Term, defs ...api.TermClause) api.Term {
	return api.Term{Op: api.TermDef, Defs: defs, Kids: []api.Term{body}}
}

var (
	zero = node(api.TermNil)
	stop = node(api.TermStop)
)

// tree is the process T of layer 1's examples.
func tree() api.Term {
	return def(node(api.TermPar, send("y"), headed(api.TermWatch, "p", zero)),
		rule(send("z", name("a"), name("b")), join("x", "a"), join("y")),
		place("p", headed(api.TermGo, "q", send("x", num(1)))))
}

// cut returns the texts of the tokens of a source that has tokens.
func cut(t *testing.T, source string) []string {
	t.Helper()
	l, e := read.Tokens(source)
	if e != api.OK {
		t.Fatalf("%q: error %d", source, e)
	}
	return list(l, func(k api.ReadToken) string { return k.Text })
}

// sources calls f with sources of formed processes, made by chance.
func sources(t *testing.T, seed uint64, f func(m *maker, tokens []string, u api.Term)) {
	t.Helper()
	m := newMaker(seed)
	n := 0
	for range 6000 {
		tokens := m.process(200)
		if u, e := read.Parse(strings.Join(tokens, " ")); e == api.OK {
			n++
			f(m, tokens, u)
		} else if e != api.ErrArg {
			t.Fatalf("%q: error %d", tokens, e)
		}
	}
	if n < 2000 {
		t.Errorf("only %d sources", n)
	}
}

// blanks are as many bytes of blanks.
func blanks(n int) string { return strings.Repeat(" ", n) }
