package auto

import (
	"iter"

	"cabotage/api"
)

// pair is two states, the lesser one first.
type pair [2]int

// paired returns the pair of two states.
func paired(a, b int) pair { return pair{min(a, b), max(a, b)} }

// parted returns what stands in the place of a pair behind a letter at which other
// rules react.
func parted() pair { return pair{-1, -1} }

// letters returns the letters that a word that tells two states apart may have, in
// order, and to which pairs they lead.
func (m machine) letters(p pair) iter.Seq2[api.AutoLetter, pair] {
	return func(yield func(api.AutoLetter, pair) bool) {
		for c := range m.Chans {
			a, b := m.States[p[0]][c], m.States[p[1]][c]
			if a.Rule != b.Rule {
				if !yield(api.AutoLetter{Chan: c}, parted()) {
					return
				}
				continue
			}
			for keep, i := range subsets(m.others(a.Rule, c)) {
				if !yield(api.AutoLetter{Chan: c, Keep: keep}, paired(a.Next[i], b.Next[i])) {
					return
				}
			}
		}
	}
}

// told returns for the pairs that some word tells apart how many letters the shortest
// one has. They are found from the ends of the words on, so that each letter of each
// pair is looked at just twice, whatever the words are like.
func (m machine) told() map[pair]int {
	from := map[pair][]pair{}
	for b := range m.States {
		for a := range b {
			for _, to := range m.letters(pair{a, b}) {
				from[to] = append(from[to], pair{a, b})
			}
		}
	}
	far := map[pair]int{parted(): 0}
	for met := []pair{parted()}; len(met) > 0; met = met[1:] {
		for _, p := range from[met[0]] {
			if _, is := far[p]; !is {
				far[p] = far[met[0]] + 1
				met = append(met, p)
			}
		}
	}
	return far
}

// apart returns the least word that tells a pair apart, and whether there is one.
func (m machine) apart(p pair) ([]api.AutoLetter, bool) {
	far := m.told()
	if _, is := far[p]; !is {
		return nil, false
	}
	var word []api.AutoLetter
search:
	for far[p] > 0 {
		for l, to := range m.letters(p) {
			if n, is := far[to]; is && n < far[p] {
				word = append(word, l)
				p = to
				continue search
			}
		}
	}
	return word, true
}
