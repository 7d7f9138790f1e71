package read

import (
	"iter"
	"strings"

	"cabotage/api"
	"cabotage/term"
)

// none is the kind of what is no token.
const none api.ReadKind = 0

// mostDigits is how many digits an integer has at most.
const mostDigits = 10

// words are the keywords, sorted.
var words = []string{"and", "def", "else", "go", "if", "in", "place", "stop", "then", "watch"}

var signs = []string{"(", ")", "{", "}", ",", ";", "|", "&", "=", "==", "<", "+", "-", "*"}

// keywords returns the keywords, to be asked whether a word is one.
func keywords() map[string]bool {
	asked := map[string]bool{}
	for _, s := range words {
		asked[s] = true
	}
	return asked
}

// tokens goes through the tokens of a source, and at last to what ends them,
// which has no kind: a byte at which there is neither a token nor a blank, or the
// end of the source, which has no text.
func tokens(source string) iter.Seq[api.ReadToken] {
	return func(yield func(api.ReadToken) bool) {
		keyword := keywords()
		at, line := 0, 1
		for {
			gap := blank(source[at:])
			line += strings.Count(source[at:at+gap], "\n")
			at += gap
			kind, size := first(source[at:], keyword)
			t := api.ReadToken{Kind: kind, Text: source[at : at+size], At: at, Line: line}
			at += size
			if !yield(t) || kind == none {
				return
			}
		}
	}
}

// cut returns the tokens of a source, and what ends them.
func cut(source string) (l []api.ReadToken, end api.ReadToken, e api.Errno) {
	if len(source) > api.ReadLong {
		return nil, end, api.ErrLong
	}
	for t := range tokens(source) {
		if t.Kind == none {
			end = t
			break
		}
		l = append(l, t)
	}
	return l, end, api.OK
}

// texts returns the texts of tokens.
func texts(l []api.ReadToken) []string {
	var out []string
	for _, t := range l {
		out = append(out, t.Text)
	}
	return out
}

// blank returns how many bytes at the front of a text are blanks.
func blank(text string) int {
	n := 0
	for n < len(text) {
		switch rest := text[n:]; {
		case strings.HasPrefix(rest, "//"):
			n += run(rest, func(c byte) bool { return c != '\n' })
		case rest[0] == ' ' || rest[0] == '\t' || rest[0] == '\n':
			n++
		default:
			return n
		}
	}
	return n
}

// first returns the kind and the size of what begins a text. Where no token does,
// that is one byte of no kind, or nothing if there is none.
func first(text string, keyword map[string]bool) (api.ReadKind, int) {
	if text == "" {
		return none, 0
	}
	if n := run(text, letter); n > 0 {
		switch {
		case keyword[text[:n]]:
			return api.ReadWord, n
		case term.Name(text[:n]):
			return api.ReadName, n
		}
		return none, 1
	}
	if n := sign(text); n > 0 {
		return api.ReadSign, n
	}
	minus := 0
	if text[0] == '~' {
		minus = 1
	}
	if n := minus + run(text[minus:], digit); integer(text[:n]) {
		return api.ReadInt, n
	}
	return none, 1
}

// run returns how many bytes at the front of a text are some.
func run(text string, are func(byte) bool) int {
	n := 0
	for n < len(text) && are(text[n]) {
		n++
	}
	return n
}

func letter(c byte) bool { return 'a' <= c && c <= 'z' }

func digit(c byte) bool { return '0' <= c && c <= '9' }

// sign returns the size of the longest sign that begins a text.
func sign(text string) int {
	n := 0
	for _, s := range signs {
		if strings.HasPrefix(text, s) {
			n = max(n, len(s))
		}
	}
	return n
}

// integer reports whether digits, with a ~ in front or without, are an integer.
func integer(text string) bool {
	digits := strings.TrimPrefix(text, "~")
	if len(digits) < 1 || len(digits) > mostDigits {
		return false
	}
	return digits[0] != '0' || text == "0"
}
