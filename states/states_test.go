package states

import (
	"slices"
	"testing"

	"chorus/api"
	"chorus/samples"
)

// some: states, empty and full rows among them.
func some() []api.State {
	return []api.State{
		{},
		{Rows: [4][]int{{}, {}, {}, {}}},
		{Rows: [4][]int{{1}, nil, {2, 3}, {}}},
		{Rows: [4][]int{{0, 1, 2, 3}, {0, 1, 2, 3}, {0, 1, 2, 3}, {0, 1, 2, 3}}},
	}
}

func TestMayAsksEachRow(t *testing.T) {
	for at := range 4 {
		var s api.State
		s.Rows[at] = []int{7}
		if May(s, func(row []int) bool { return !slices.Contains(row, 7) }) {
			t.Errorf("row %d is not asked", at)
		}
	}
	for _, s := range some() {
		if !May(s, func(row []int) bool { return len(row) <= 4 }) {
			t.Errorf("%v: each row may be", s)
		}
	}
}

func TestCount(t *testing.T) {
	for i, want := range []int{0, 0, 3, 16} {
		if got := Count(some()[i]); got != want {
			t.Errorf("%v: %d, want %d", some()[i], got, want)
		}
	}
}

func TestCopyIsTheSameInMemoryOfItsOwn(t *testing.T) {
	apply := func(s api.State, o api.Op) (api.State, int, api.Errno) { return Copy(s), 0, api.OK }
	for _, s := range some() {
		if got := Copy(s); !samples.Same(got, s) {
			t.Errorf("%v: %v", s, got)
		}
		if fault := samples.Sharing(apply, s, api.Op{}); fault != "" {
			t.Errorf("%v: %s", s, fault)
		}
	}
}
