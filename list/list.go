// Package list has what the layers do with lists alike.
package list

// Each returns what f makes of each element of a list, in new memory.
func Each[A, B any](l []A, f func(A) B) []B {
	var out []B
	for _, a := range l {
		out = append(out, f(a))
	}
	return out
}
