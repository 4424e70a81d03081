// Package lists: what layers share, of lists of any kind.
package lists

// All: is it so of all of them? (Of none: yes.)
func All[T any](xs []T, is func(x T) bool) bool {
	for _, x := range xs {
		if !is(x) {
			return false
		}
	}
	return true
}

// Copy: the same ones, in memory of their own.
func Copy[T any](xs []T) []T {
	// Appended to nil, so that an empty list does not keep the one that was given.
	return append([]T(nil), xs...)
}
