// Package term is layer 1: processes, definitions and expressions as data, the
// names that stand in them, and what stands in place of a name. The chapter
// shared/doc/01-term.md specifies it.
package term

import (
	"maps"
	"slices"

	"cabotage/api"
	"cabotage/list"
)

// Name reports whether a string is a name.
func Name(s string) bool { return spelt(s) && !keywords()[s] }

// Fresh returns the first name that is none of some strings.
func Fresh(l []string) string {
	taken := map[string]bool{}
	for _, s := range l {
		taken[s] = true
	}
	return fresh(taken)
}

// Check returns ErrArg for a process that is not formed.
func Check(t api.Term) api.Errno {
	_, e := measure(process{t})
	return e
}

// CheckExp returns ErrArg for an expression that is not formed.
func CheckExp(e api.TermExp) api.Errno {
	_, err := measure(expression{e})
	return err
}

// Nodes returns how many nodes a process has.
func Nodes(t api.Term) (int, api.Errno) {
	size, e := measure(process{t})
	return size.nodes, e
}

// Depth returns the depth of a process.
func Depth(t api.Term) (int, api.Errno) {
	size, e := measure(process{t})
	return size.depth, e
}

// Free returns the free names of a process, sorted.
func Free(t api.Term) ([]string, api.Errno) {
	if e := Check(t); e != api.OK {
		return nil, e
	}
	return slices.Sorted(maps.Keys(freeNames(process{t}))), api.OK
}

// Defines returns the channels and the places of a TermDef.
func Defines(t api.Term) (channels, places []string, e api.Errno) {
	if e := Check(t); e != api.OK {
		return nil, nil, e
	}
	if t.Op != api.TermDef {
		return nil, nil, api.ErrNone
	}
	channels, places = defines(t.Defs)
	return channels, places, api.OK
}

// Put returns a process with an expression in place of a name.
func Put(t api.Term, x string, e api.TermExp) (api.Term, api.Errno) {
	if Check(t) != api.OK || !Name(x) || CheckExp(e) != api.OK {
		return api.Term{}, api.ErrArg
	}
	if e.Op != api.TermName && leads(t, x) {
		return api.Term{}, api.ErrRule
	}
	return ifFormed(put(t, x, e))
}

// Canon returns a process with its bound names chosen anew.
func Canon(t api.Term) (api.Term, api.Errno) {
	if e := Check(t); e != api.OK {
		return api.Term{}, e
	}
	return canon(t), api.OK
}

// Alike reports whether two processes are the same up to bound names.
func Alike(a, b api.Term) (bool, api.Errno) {
	if Check(a) != api.OK || Check(b) != api.OK {
		return false, api.ErrArg
	}
	return equal(canon(a), canon(b)), api.OK
}

// Parts returns the parts beside each other of a process.
func Parts(t api.Term) ([]api.Term, api.Errno) {
	if e := Check(t); e != api.OK {
		return nil, e
	}
	return parts(copied(t)), api.OK
}

// Beside returns some processes beside each other.
func Beside(l []api.Term) (api.Term, api.Errno) {
	for _, t := range l {
		if e := Check(t); e != api.OK {
			return api.Term{}, e
		}
	}
	if len(l) > api.TermNodes {
		return api.Term{}, api.ErrLong
	}
	return ifFormed(beside(list.Each(l, copied)))
}

// Layout returns a process laid out.
func Layout(t api.Term) (api.Term, api.Errno) {
	if e := Check(t); e != api.OK {
		return api.Term{}, e
	}
	return ifFormed(layout(copied(t)))
}

// ifFormed returns a result, or ErrLong if it is not formed: what is made of
// formed processes can only be too large or too deep.
func ifFormed(t api.Term) (api.Term, api.Errno) {
	if Check(t) != api.OK {
		return api.Term{}, api.ErrLong
	}
	return t, api.OK
}
