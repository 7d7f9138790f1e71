package auto

import (
	"iter"

	"cabotage/api"
)

// only returns the set of a channel.
func only(c int) int { return 1 << c }

// within reports whether all channels of a set are in another one.
func within(set, other int) bool { return set&^other == 0 }

// members returns the channels of a set, in increasing order.
func members(set int) iter.Seq[int] {
	return func(yield func(int) bool) {
		for c := range api.AutoChans {
			if within(only(c), set) && !yield(c) {
				return
			}
		}
	}
}

// subsets returns the sets within a set, in increasing order, with their numbers: a bit
// i of the number says whether the channel with the place i in the set is there.
func subsets(set int) iter.Seq2[int, int] {
	return func(yield func(int, int) bool) {
		sub := 0
		for n := range only(size(set)) {
			if !yield(sub, n) {
				return
			}
			sub = (sub - set) & set // as if the bits that are not in the set were none
		}
	}
}

// place returns the number by which subsets finds those channels of a set that are in
// another one.
func place(set, other int) int {
	n, bit := 0, 0
	for c := range members(set) {
		if within(only(c), other) {
			n |= only(bit)
		}
		bit++
	}
	return n
}
