package sol

import "cabotage/api"

// rooted reports whether each place is within the first one, which is in none.
func rooted(spots []api.SolSpot) bool {
	return len(spots) > 0 && spots[0].In == -1 && len(within(spots, 0)) == len(spots)
}

// within returns the places that are within a place, sorted, also if places do not
// stand as they should.
func within(spots []api.SolSpot, place int) []int {
	asked, is := make([]bool, len(spots)), make([]bool, len(spots))
	var visit func(p int) bool
	visit = func(p int) bool {
		if !numbered(p, len(spots)) {
			return false
		}
		if !asked[p] {
			asked[p] = true // so that places in a ring are within no other one
			in := p == place || visit(spots[p].In)
			is[p] = in
		}
		return is[p]
	}
	var l []int
	for p := range spots {
		if visit(p) {
			l = append(l, p)
		}
	}
	return l
}
