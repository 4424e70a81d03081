// Package lists: what layers share, of lists of any kind.
package lists

// All: is it so of all of them? (Of none: yes.)
func All[T any](xs []T, is func(x T) bool) bool {
	for _, x := range xs {
		if !is(x) {
			return false
		}
	}
	return true
}

// Copy: the same ones, in memory of their own.
func Copy[T any](xs []T) []T {
	// Appended to nil, so that an empty list does not keep the one that was given.
	return append([]T(nil), xs...)
}

// CopyEach: the same ones, each of them copied, in memory of their own.
func CopyEach[T any](xs []T, copied func(x T) T) []T {
	ys := Copy(xs)
	for i, y := range ys {
		ys[i] = copied(y)
	}
	return ys
}

// Which: the numbers of those of which it is so, rising.
func Which[T any](xs []T, is func(at int, x T) bool) []int {
	var which []int
	for at, x := range xs {
		if is(at, x) {
			which = append(which, at)
		}
	}
	return which
}

// Has: is there one of that number?
func Has[T any](xs []T, at int) bool {
	return at >= 0 && at < len(xs)
}
