package states

import (
	"slices"
	"testing"

	"chorus/api"
	"chorus/samples"
)

// some: states, empty and full rows among them.
func some() []api.State {
	return []api.State{
		{},
		{Rows: [4][]int{{}, {}, {}, {}}},
		{Rows: [4][]int{{1}, nil, {2, 3}, {}}},
		{Rows: [4][]int{{0, 1, 2, 3}, {0, 1, 2, 3}, {0, 1, 2, 3}, {0, 1, 2, 3}}},
	}
}

func TestMayAsksEachRow(t *testing.T) {
	for at := range 4 {
		var s api.State
		s.Rows[at] = []int{7}
		if May(s, func(row []int) bool { return !slices.Contains(row, 7) }) {
			t.Errorf("row %d is not asked", at)
		}
	}
	for _, s := range some() {
		if !May(s, func(row []int) bool { return len(row) <= 4 }) {
			t.Errorf("%v: each row may be", s)
		}
	}
}

func TestCount(t *testing.T) {
	for i, want := range []int{0, 0, 3, 16} {
		if got := Count(some()[i]); got != want {
			t.Errorf("%v: %d, want %d", some()[i], got, want)
		}
	}
}

func TestSameHoldsEachRow(t *testing.T) {
	for i, s := range some() {
		for j, other := range some() {
			// The first two are no numbers, told in two ways.
			if want := i == j || i+j == 1; Same(s, other) != want {
				t.Errorf("%v and %v: want %v", s, other, want)
			}
		}
		for at := range 4 {
			for _, row := range [][]int{{9}, {2, 3, 9}, {2, 9}, {9, 1, 2, 3}, {0, 1, 2, 9}} {
				other := s
				other.Rows[at] = row
				if Same(s, other) || Same(other, s) {
					t.Errorf("%v and %v are not the same", s, other)
				}
			}
		}
	}
}

func TestCountedAsksTheTurnOfTheCode(t *testing.T) {
	first := func(row []int, arg int) ([]int, int) { return append(row, arg), 10 + len(row) }
	second := func(row []int, arg int) ([]int, int) { return nil, 20 + arg }
	for _, x := range []struct {
		o      api.Op
		after  [4][]int
		answer int
	}{
		{api.Op{Code: api.CodeFirst, Row: 2, Arg: 9}, [4][]int{{1}, nil, {2, 3, 9}, {}}, 12},
		{api.Op{Code: api.CodeFirst, Row: 3, Arg: 9}, [4][]int{{1}, nil, {2, 3}, {9}}, 10},
		{api.Op{Code: api.CodeSecond, Row: 2, Arg: 9}, [4][]int{{1}, nil, nil, {}}, 29},
		{api.Op{Code: api.CodeLook, Row: 2}, [4][]int{{1}, nil, {2, 3}, {}}, 2},
		{api.Op{Code: api.CodeLook, Row: 1}, [4][]int{{1}, nil, {2, 3}, {}}, 0},
		{api.Op{Code: api.CodeScan}, [4][]int{{1}, nil, {2, 3}, {}}, 3},
	} {
		s := some()[2]
		got, a := Counted(s, x.o, first, second)
		if !samples.Same(got, api.State{Rows: x.after}) || a != x.answer || !samples.Same(s, some()[2]) {
			t.Errorf("%v: %v, %d, want %v, %d; %v", x.o, got, a, x.after, x.answer, s)
		}
	}
}

func TestCopyIsTheSameInMemoryOfItsOwn(t *testing.T) {
	apply := func(s api.State, o api.Op) (api.State, int, api.Errno) { return Copy(s), 0, api.OK }
	for _, s := range some() {
		if got := Copy(s); !samples.Same(got, s) {
			t.Errorf("%v: %v", s, got)
		}
		if fault := samples.Sharing(apply, s, api.Op{}); fault != "" {
			t.Errorf("%v: %s", s, fault)
		}
	}
}
