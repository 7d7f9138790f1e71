package state

import (
	"cabotage/api"
	"cabotage/list"
)

// Rooted reports whether each place is within the first one, which is in none.
func Rooted(spots []api.SolSpot) bool {
	return len(spots) > 0 && spots[0].In == -1 && len(Within(spots, 0)) == len(spots)
}

// Within returns the places that are within a place, sorted, also if places do not
// stand as they should.
func Within(spots []api.SolSpot, place int) []int {
	asked, is := make([]bool, len(spots)), make([]bool, len(spots))
	var visit func(p int) bool
	visit = func(p int) bool {
		if !list.Numbered(p, len(spots)) {
			return false
		}
		if !asked[p] {
			asked[p] = true // so that places in a ring are within no other one
			in := p == place || visit(spots[p].In)
			is[p] = in
		}
		return is[p]
	}
	var l []int
	for p := range spots {
		if visit(p) {
			l = append(l, p)
		}
	}
	return l
}
