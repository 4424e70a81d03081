// Package states: what the layers of the objects share, of a state's rows.
package states

import (
	"chorus/api"
)

// May: may each of its rows be?
func May(s api.State, mayRow func(row []int) bool) bool {
	for _, row := range s.Rows {
		if !mayRow(row) {
			return false
		}
	}
	return true
}

// Count: how many numbers are in all of its rows.
func Count(s api.State) int {
	total := 0
	for _, row := range s.Rows {
		total += len(row)
	}
	return total
}

// Copy: the same rows, in memory of their own.
func Copy(s api.State) api.State {
	var t api.State
	for i, row := range s.Rows {
		// Appended to nil, so that an empty row does not keep the one that was given.
		t.Rows[i] = append([]int(nil), row...)
	}
	return t
}
