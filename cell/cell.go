// Package cell: words that are shared. See DOC.md, chapter 1.
package cell

import (
	"slices"

	"chorus/api"
)

// Load: what is there.
func Load(cs []int, at int) (int, api.Errno) {
	if !mayAt(cs, at) {
		return 0, api.ErrCellForm
	}
	return cs[at], api.OK
}

// Store: the cells with x there.
func Store(cs []int, at int, x int) ([]int, api.Errno) {
	if !mayAt(cs, at) || !mayHold(x) {
		return nil, api.ErrCellForm
	}
	return with(cs, at, x), api.OK
}

// Swap: the cells with new there, if old was; was it done?
func Swap(cs []int, at int, old int, new int) ([]int, bool, api.Errno) {
	// An old that no cell can hold is no error: it is just never there.
	if !mayAt(cs, at) || !mayHold(new) {
		return nil, false, api.ErrCellForm
	}
	if cs[at] != old {
		return slices.Clone(cs), false, api.OK
	}
	return with(cs, at, new), true, api.OK
}

// Add: the cells with by more there; what was there.
func Add(cs []int, at int, by int) ([]int, int, api.Errno) {
	if !mayAt(cs, at) {
		return nil, 0, api.ErrCellForm
	}
	was := cs[at]
	// by is held against the room on both sides, as the sum could wrap round.
	if by < -was || by > api.MaxCell-was {
		return nil, 0, api.ErrCellForm
	}
	return with(cs, at, was+by), was, api.OK
}

// mayAt: may cs be, and is at one of them?
func mayAt(cs []int, at int) bool {
	return may(cs) && at >= 0 && at < len(cs)
}

// may: are they cells that may be?
func may(cs []int) bool {
	if len(cs) > api.MaxCells {
		return false
	}
	for _, x := range cs {
		if !mayHold(x) {
			return false
		}
	}
	return true
}

// mayHold: may a cell hold x?
func mayHold(x int) bool {
	return x >= 0 && x <= api.MaxCell
}

// with: a copy of cs, with x at a place that it has.
func with(cs []int, at int, x int) []int {
	ds := slices.Clone(cs)
	ds[at] = x
	return ds
}
