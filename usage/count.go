package usage

import (
	"cmp"

	"cabotage/api"
)

// count is how often something happens: 0, 1 or many.
type count int

// The counts.
const (
	none count = iota
	one
	many
)

// plus is the sum of two counts.
func (c count) plus(d count) count { return min(c+d, many) }

// times is the product of two counts.
func (c count) times(d count) count { return min(c*d, many) }

// or is the greater one of two counts.
func (c count) or(d count) count { return greater(c, d) }

// kind is the kind of a count.
func (c count) kind() api.UsageKind {
	switch c {
	case none:
		return api.UsageNever
	case one:
		return api.UsageMost
	}
	return api.UsageMany
}

// counted is the count of a kind.
func counted(k api.UsageKind) count {
	switch k {
	case api.UsageNever:
		return none
	case api.UsageMany:
		return many
	}
	return one
}

func greater[A cmp.Ordered](a, b A) A {
	if a < b {
		return b
	}
	return a
}
