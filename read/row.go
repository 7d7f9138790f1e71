package read

import (
	"slices"

	"cabotage/api"
)

// row is the tokens of a source, and how far they were read.
type row struct {
	list      []api.ReadToken
	end       api.ReadToken // what ends the tokens
	next      int
	behind    int      // the first byte behind the last token that was read
	completes bool     // whether what lacks at the end of the source is put in
	rest      []string // what was put in
}

// fault is what a source that goes wrong panics with.
type fault api.ReadFault

// peek returns the next token, or what ends them.
func (r *row) peek() api.ReadToken {
	if r.next < len(r.list) {
		return r.list[r.next]
	}
	return r.end
}

// shift returns the next token, and goes on behind it.
func (r *row) shift() api.ReadToken {
	t := r.peek()
	r.next++
	r.behind = t.At + len(t.Text)
	return t
}

// is reports whether the next token has one of some texts.
func (r *row) is(texts ...string) bool {
	t := r.peek()
	// What ends the tokens may be the 0 of a 07.
	return t.Kind != none && slices.Contains(texts, t.Text)
}

// take goes on behind the next token if it has one of some texts.
func (r *row) take(texts ...string) bool {
	if !r.is(texts...) {
		return false
	}
	r.shift()
	return true
}

// need goes on behind a token that has to be the next one.
func (r *row) need(text string) {
	if !r.take(text) {
		r.lack(text)
	}
}

// name reads a name.
func (r *row) name() string {
	if r.peek().Kind == api.ReadName {
		return r.shift().Text
	}
	r.lack("a")
	return "a"
}

// ended reports whether the end of the source is next.
func (r *row) ended() bool {
	t := r.peek()
	return t.Kind == none && t.Text == ""
}

// lack puts a token in at the end of a source that is completed. Elsewhere it
// gives up.
func (r *row) lack(text string) {
	if !r.completes || !r.ended() {
		r.fail()
	}
	r.rest = append(r.rest, text)
}

// fail gives up at the next token.
func (r *row) fail() {
	t := r.peek()
	panic(fault{At: t.At, Line: t.Line, Text: t.Text})
}
