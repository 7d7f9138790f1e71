package usage

import (
	"slices"

	"cabotage/api"
	"cabotage/list"
)

// counts are those of a definition, as a table has their kinds.
type counts struct {
	chans []count
	rules []count
	args  [][]count // of each channel
}

// fits reports whether what a table has for a definition is as defined.
func fits(d api.ScopeDef, u api.UsageDef) bool {
	if len(u.Chans) != len(d.Chans) || len(u.Rules) != len(d.Rules) || len(u.Args) != len(d.Chans) {
		return false
	}
	for i, c := range d.Chans {
		if len(u.Args[i]) != c.Many || slices.ContainsFunc(u.Args[i], notOfCount) {
			return false
		}
	}
	return !slices.ContainsFunc(u.Chans, noKind) && !slices.ContainsFunc(u.Rules, notOfCount)
}

func noKind(k api.UsageKind) bool { return k < api.UsageNever || k > api.UsageMany }

// notOfCount reports whether a kind is not that of a count.
func notOfCount(k api.UsageKind) bool { return noKind(k) || k == api.UsageOnce }

// nothing returns the counts of a definition of which nothing happens.
func nothing(d api.ScopeDef) counts {
	return counts{
		chans: make([]count, len(d.Chans)),
		rules: make([]count, len(d.Rules)),
		args:  list.Each(d.Chans, func(c api.ScopeChan) []count { return make([]count, c.Many) }),
	}
}

// counting returns the counts of kinds.
func counting(u api.UsageDef) counts {
	return counts{
		chans: list.Each(u.Chans, counted),
		rules: list.Each(u.Rules, counted),
		args:  list.Each(u.Args, func(l []api.UsageKind) []count { return list.Each(l, counted) }),
	}
}

// kinds returns the kinds of counts.
func (c counts) kinds() api.UsageDef {
	return api.UsageDef{
		Chans: list.Each(c.chans, count.kind),
		Rules: list.Each(c.rules, count.kind),
		Args:  list.Each(c.args, func(l []count) []api.UsageKind { return list.Each(l, count.kind) }),
	}
}

// all returns all counts of a definition.
func (c counts) all() []count {
	return slices.Concat(c.chans, c.rules, slices.Concat(c.args...))
}

func (c counts) equal(d counts) bool { return slices.Equal(c.all(), d.all()) }

// cover reports whether each count is at least the one that is asked for.
func (c counts) cover(asked counts) bool {
	have := c.all()
	for i, least := range asked.all() {
		if have[i] < least {
			return false
		}
	}
	return true
}
