// Package show writes solutions, their steps and events as short texts, for the tests
// of the layers. What is different has different texts.
package show

import (
	"strconv"
	"strings"

	"cabotage/api"
	"cabotage/list"
)

// All writes the elements of a list, with something between them.
func All[A any](l []A, between string, show func(A) string) string {
	return strings.Join(list.Each(l, show), between)
}

// ints writes numbers.
func ints(between string, l ...int) string { return All(l, between, strconv.Itoa) }

// Val writes a value: an integer as itself, the free name 0 as f0, and likewise the
// channel c0, and the place p0.
func Val(v api.SolVal) string {
	if v.Kind < api.SolInt || v.Kind > api.SolPlace {
		return "{" + ints(" ", int(v.Kind), v.N) + "}"
	}
	return []string{"", "f", "c", "p"}[v.Kind-1] + ints("", v.N)
}

// Vals writes values, in brackets.
func Vals(l []api.SolVal) string { return "(" + All(l, " ", Val) + ")" }

// Spots writes the In of each place, with an x if it is dead.
func Spots(l []api.SolSpot) string {
	return All(l, " ", func(p api.SolSpot) string {
		if p.Dead {
			return ints("", p.In) + "x"
		}
		return ints("", p.In)
	})
}

// Sol writes a solution: its places; the Def, the At and the Env of each group; the
// Group, the Index, the At and the messages of each channel; the Node, the At and the
// Env of each process that waits.
func Sol(s api.Sol) string {
	groups := All(s.Groups, " ", func(g api.SolGroup) string { return ints("@", g.Def, g.At) + Vals(g.Env) })
	chans := All(s.Chans, " ", func(q api.SolQ) string {
		return ints(".", q.Group, q.Index) + "@" + ints("", q.At) + "[" + All(q.Queue, "", func(m api.SolMsg) string { return Vals(m.Vals) }) + "]"
	})
	waits := All(s.Waits, " ", func(w api.SolWait) string { return ints("@", w.Node, w.At) + Vals(w.Env) })
	return strings.Join([]string{Spots(s.Spots), groups, chans, waits}, " | ")
}

// Step writes a step: the number of a process that waits, or group, rule and Picks.
func Step(x api.SolStep) string {
	if x.Wait >= 0 && x.Group == 0 && x.Rule == 0 && len(x.Picks) == 0 {
		return ints("", x.Wait)
	}
	rule := ints(".", x.Group, x.Rule) + " [" + ints(" ", x.Picks...) + "]"
	if x.Wait == -1 {
		return rule
	}
	return ints("", x.Wait) + "?" + rule
}

// Events writes events: what happened, where, and what else belongs to it.
func Events(l []api.SolEvent) string { return All(l, "; ", event) }

func event(x api.SolEvent) string {
	at := "@" + ints(" ", x.At, x.N)
	switch {
	case x.Deed == api.SolTook:
		return "took" + at + "." + ints("", x.M) + Vals(x.Vals)
	case x.Deed == api.SolSaid && x.M == 0:
		return "said" + at + Vals(x.Vals)
	case x.Deed == api.SolWent && x.M == 0 && len(x.Vals) == 0:
		return "went" + at
	case x.Deed == api.SolTold && x.M == 0 && len(x.Vals) == 0:
		return "told" + at
	case x.Deed == api.SolDied && x.N == 0 && x.M == 0 && len(x.Vals) == 0:
		return "died@" + ints("", x.At)
	}
	return ints(" ", int(x.Deed), x.At, x.N, x.M) + Vals(x.Vals)
}
