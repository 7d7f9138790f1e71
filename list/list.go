// Package list has what the layers do with lists alike.
package list

// Each returns what f makes of each element of a list, in new memory.
func Each[A, B any](l []A, f func(A) B) []B {
	var out []B
	for _, a := range l {
		out = append(out, f(a))
	}
	return out
}

// All reports whether f holds of all elements of a list.
func All[A any](l []A, f func(A) bool) bool {
	for _, a := range l {
		if !f(a) {
			return false
		}
	}
	return true
}

// Numbered reports whether a number is that of one of so many things, from 0 on.
func Numbered(n, many int) bool { return 0 <= n && n < many }
