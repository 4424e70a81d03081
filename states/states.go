// Package states: what layers share, of a state's rows.
package states

import (
	"slices"

	"chorus/api"
	"chorus/lists"
)

// May: may each of its rows be?
func May(s api.State, mayRow func(row []int) bool) bool {
	return lists.All(s.Rows[:], mayRow)
}

// Count: how many numbers are in all of its rows.
func Count(s api.State) int {
	total := 0
	for _, row := range s.Rows {
		total += len(row)
	}
	return total
}

// Same: are the numbers of each row the same ones? (An empty row and nil are one.)
func Same(s, t api.State) bool {
	return slices.EqualFunc(s.Rows[:], t.Rows[:], slices.Equal[[]int])
}

// Turn: the row that an operation makes of one that it may write to; its answer.
type Turn func(row []int, arg int) ([]int, int)

// Counted: the state that o, which may be, makes of s, where looks and scans tell how many numbers there are; its answer.
func Counted(s api.State, o api.Op, first, second Turn) (api.State, int) {
	t := Copy(s)
	row, answer := t.Rows[o.Row], 0
	switch o.Code {
	case api.CodeFirst:
		row, answer = first(row, o.Arg)
	case api.CodeSecond:
		row, answer = second(row, o.Arg)
	case api.CodeLook:
		answer = len(row)
	case api.CodeScan:
		answer = Count(t)
	}
	t.Rows[o.Row] = row
	return t, answer
}

// Copy: the same rows, in memory of their own.
func Copy(s api.State) api.State {
	var t api.State
	for i, row := range s.Rows {
		t.Rows[i] = lists.Copy(row)
	}
	return t
}
