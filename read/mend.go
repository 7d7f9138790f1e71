package read

import (
	"slices"

	"cabotage/api"
)

// change is a way to change one token: how many tokens are cut out at a place, and
// what can be put in there.
type change struct {
	cut  int
	puts [][]api.ReadToken
}

// mend returns the first row of tokens, with one of them changed, that can be
// derived.
func mend(l []api.ReadToken) (mended []api.ReadToken, found bool) {
	if derived(l) {
		return l, true
	}
	tokens := put()
changes:
	for _, c := range []change{{1, [][]api.ReadToken{nil}}, {0, tokens}, {1, tokens}} {
		for at := 0; at+c.cut <= len(l); at++ {
			for _, t := range c.puts {
				mended = slices.Concat(l[:at], t, l[at+c.cut:])
				if found = derived(mended); found {
					break changes
				}
			}
		}
	}
	return mended, found
}

// put returns the tokens that can be put in, each alone.
func put() [][]api.ReadToken {
	choices := append([]string{"0", "a"}, words...)
	choices = append(choices, signs...)
	keyword := keywords()
	var l [][]api.ReadToken
	for _, s := range choices {
		kind, _ := first(s, keyword)
		l = append(l, []api.ReadToken{{Kind: kind, Text: s}})
	}
	return l
}

// derived reports whether tokens can be derived from process.
func derived(l []api.ReadToken) bool {
	r := newReader(l, api.ReadToken{})
	_, _, ok := whole(r, r.process)
	return ok
}
