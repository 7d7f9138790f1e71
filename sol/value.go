package sol

import (
	"cabotage/api"
	"cabotage/list"
)

// ranged reports whether a number is one that integers can have.
func ranged(n int) bool { return -api.TermMost <= n && n <= api.TermMost }

// isValue reports whether a value is of one of the kinds; what has its number is not
// asked.
func isValue(v api.SolVal) bool {
	if v.Kind == api.SolInt {
		return ranged(v.N)
	}
	return api.SolInt < v.Kind && v.Kind <= api.SolPlace
}

// isFormed reports whether an expression is formed whose names are places of an
// environment of a size. It ends at the limits, as lists may contain themselves.
func isFormed(e api.ScopeExp, size int) bool {
	count := 0
	var visit func(e api.ScopeExp, depth int) bool
	visit = func(e api.ScopeExp, depth int) bool {
		count++
		if count > api.ScopeNodes || depth > api.TermDepth {
			return false
		}
		switch e.Op {
		case api.TermInt:
			return len(e.Kids) == 0 && ranged(e.N)
		case api.TermName:
			return len(e.Kids) == 0 && list.Numbered(e.N, size)
		case api.TermAdd, api.TermSub, api.TermMul, api.TermLess, api.TermSame:
			return len(e.Kids) == 2 && e.N == 0 && visit(e.Kids[0], depth+1) && visit(e.Kids[1], depth+1)
		}
		return false
	}
	return visit(e, 1)
}

// value returns the value of a formed expression.
func value(e api.ScopeExp, env []api.SolVal) api.SolVal {
	switch e.Op {
	case api.TermInt:
		return integer(e.N)
	case api.TermName:
		return env[e.N]
	}
	a, b := number(value(e.Kids[0], env)), number(value(e.Kids[1], env))
	switch e.Op {
	case api.TermAdd:
		return nearest(a + b)
	case api.TermSub:
		return nearest(a - b)
	case api.TermMul:
		return nearest(a * b)
	case api.TermLess:
		return truth(a < b)
	}
	return truth(a == b)
}

func integer(n int) api.SolVal { return api.SolVal{Kind: api.SolInt, N: n} }

// nearest returns the integer that is nearest to a number.
func nearest(n int) api.SolVal { return integer(max(-api.TermMost, min(n, api.TermMost))) }

func truth(is bool) api.SolVal {
	if is {
		return integer(1)
	}
	return integer(0)
}

// number returns what a value counts as where numbers are reckoned with.
func number(v api.SolVal) int {
	if v.Kind == api.SolInt {
		return v.N
	}
	return 0
}
