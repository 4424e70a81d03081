package samples

import (
	"math"
	"slices"

	"chorus/api"
)

// NoObjects: numbers below the first object and above the last, some of them one of the three if bits were lost.
func NoObjects() []int {
	return []int{math.MinInt, -1 << 32, -256, -3, -2, -1, 3, 4, 5, 255, 256, 257, 1 << 32, 1<<32 + 1, math.MaxInt}
}

// FairStates: states that may be of this object: empty and full rows, beside like and unlike ones.
func FairStates(object int) []api.State {
	all := []api.State{{}, State([]int{}, []int{}, []int{}, []int{})}
	for _, row := range fairRows(object) {
		all = append(all, State(row, []int{1}, nil, []int{3}), State(row, row, row, row))
	}
	return all
}

// fairRows: rows that may be of this object, of a few numbers.
func fairRows(object int) [][]int {
	switch object {
	case api.ObjectStore:
		return slices.DeleteFunc(Rows(0, 1, 5, 254, 255), func(row []int) bool { return len(row) > 1 })
	case api.ObjectFds:
		return slices.DeleteFunc(Rows(0, 1, 2, 3), func(row []int) bool { return !climbs(row) })
	}
	return Rows(0, 7, 255)
}

// climbs: is each number above the one ahead of it?
func climbs(row []int) bool {
	return slices.IsSorted(row) && len(slices.Compact(slices.Clone(row))) == len(row)
}

// FewStates: states of this object at the edges: no numbers, few ones, full rows.
func FewStates(object int) []api.State {
	full := [][]int{api.ObjectStore: {255}, api.ObjectFds: {0, 1, 2, 3}, api.ObjectQueue: {255, 0, 255, 9}}[object]
	return []api.State{{}, State([]int{0}, nil, []int{1}, []int{3}), State(full, full, full, full), State([]int{}, full, []int{2}, full)}
}

// WrongRows: rows that may not be of this object.
func WrongRows(object int) [][]int {
	outside := [][]int{{-1}, {256}, {0, -1}, {0, 256}, {1, 2, 3, -1}, {1, 2, 3, 256}, {0, 1, 2, 3, 4}, {9, 9, 9, 9, 9}, {math.MinInt}, {math.MaxInt}, make([]int, 1<<10)}
	own := [][][]int{
		api.ObjectStore: {{0, 1}, {9, 9}, {0, 1, 2, 3}},
		api.ObjectFds:   {{4}, {255}, {3, 0}, {0, 0}, {2, 4}},
		api.ObjectQueue: nil,
	}
	return append(outside, own[object]...)
}
