package queue

import (
	"math"
	"slices"
	"testing"

	"chorus/api"
	"chorus/samples"
)

// list is a row of numbers.
type list = []int

// want: the chapter's words.
func want(s api.State, o api.Op) (api.State, int) {
	row := s.Rows[o.Row]
	long := len(row)
	switch {
	case o.Code == 0 && long == 4:
		return s, 0
	case o.Code == 0:
		s.Rows[o.Row] = slices.Concat(row, list{o.Arg})
		return s, 1
	case o.Code == 1 && long == 0:
		return s, -1
	case o.Code == 1:
		s.Rows[o.Row] = slices.Delete(slices.Clone(row), 0, 1)
		return s, row[0]
	case o.Code == 2:
		return s, long
	}
	return s, len(slices.Concat(s.Rows[:]...))
}

// layer: this one.
func layer() samples.Layer {
	return samples.Layer{Apply: Apply, Want: want, Err: api.ErrQueueForm}
}

// mixed: no numbers at all, and rows of several lengths.
func mixed() []api.State {
	return []api.State{{}, samples.State(list{9}, list{0, 255, 0, 255}, nil, list{4, 4, 3})}
}

// told is a call of one row written out, with what it must answer.
type told struct {
	before list
	code   int
	arg    int
	after  list
	answer int
}

// puts: a number put in, from an empty row to a full one.
func puts() []told {
	return []told{
		{nil, api.CodeFirst, 9, list{9}, 1},
		{nil, api.CodeFirst, 0, list{0}, 1},
		{nil, api.CodeFirst, 255, list{255}, 1},
		{list{9}, api.CodeFirst, 3, list{9, 3}, 1},
		{list{3}, api.CodeFirst, 9, list{3, 9}, 1},
		{list{9, 3}, api.CodeFirst, 5, list{9, 3, 5}, 1},
		{list{9, 3, 5}, api.CodeFirst, 4, list{9, 3, 5, 4}, 1},
		{list{9, 3, 5}, api.CodeFirst, 0, list{9, 3, 5, 0}, 1},
		{list{9, 3, 5}, api.CodeFirst, 255, list{9, 3, 5, 255}, 1},
		{list{9, 3, 5, 4}, api.CodeFirst, 7, list{9, 3, 5, 4}, 0},
		{list{9, 3, 5, 4}, api.CodeFirst, 0, list{9, 3, 5, 4}, 0},
		{list{9, 3, 5, 4}, api.CodeFirst, 255, list{9, 3, 5, 4}, 0},
		// A number that is in the row already is put in again.
		{list{9}, api.CodeFirst, 9, list{9, 9}, 1},
		{list{9, 3, 5}, api.CodeFirst, 3, list{9, 3, 5, 3}, 1},
		{list{0, 0, 0}, api.CodeFirst, 0, list{0, 0, 0, 0}, 1},
		{list{0, 0, 0, 0}, api.CodeFirst, 0, list{0, 0, 0, 0}, 0},
	}
}

// takes: the first number taken out, whatever the argument is.
func takes() []told {
	return []told{
		{nil, api.CodeSecond, 0, nil, -1},
		{nil, api.CodeSecond, 255, nil, -1},
		{list{9}, api.CodeSecond, 0, nil, 9},
		{list{0}, api.CodeSecond, 0, nil, 0},
		{list{255}, api.CodeSecond, 0, nil, 255},
		{list{9, 3}, api.CodeSecond, 0, list{3}, 9},
		{list{3, 9}, api.CodeSecond, 0, list{9}, 3},
		{list{9, 3, 5}, api.CodeSecond, 0, list{3, 5}, 9},
		{list{9, 3, 5, 4}, api.CodeSecond, 0, list{3, 5, 4}, 9},
		{list{9, 3, 5, 4}, api.CodeSecond, 5, list{3, 5, 4}, 9},
		{list{9, 3, 5, 4}, api.CodeSecond, 9, list{3, 5, 4}, 9},
		{list{9, 3, 5, 4}, api.CodeSecond, 255, list{3, 5, 4}, 9},
		{list{3, 9, 3}, api.CodeSecond, 0, list{9, 3}, 3},
		{list{0, 0, 0, 0}, api.CodeSecond, 0, list{0, 0, 0}, 0},
	}
}

// counts: how many there are, the same number more than once among them.
func counts() []told {
	return []told{
		{nil, api.CodeLook, 0, nil, 0},
		{list{0}, api.CodeLook, 0, list{0}, 1},
		{list{255}, api.CodeLook, 0, list{255}, 1},
		{list{9, 3}, api.CodeLook, 0, list{9, 3}, 2},
		{list{9, 9}, api.CodeLook, 0, list{9, 9}, 2},
		{list{9, 3, 5}, api.CodeLook, 0, list{9, 3, 5}, 3},
		{list{9, 3, 5, 4}, api.CodeLook, 0, list{9, 3, 5, 4}, 4},
		{list{0, 0, 0, 0}, api.CodeLook, 0, list{0, 0, 0, 0}, 4},
	}
}

func TestCallsWrittenOut(t *testing.T) {
	for _, x := range append(append(puts(), takes()...), counts()...) {
		for row := range 4 {
			// The other rows are ones that the call must neither count nor turn.
			s := api.State{Rows: [4][]int{{8, 6}, nil, {1, 2, 3, 4}, {7}}}
			want := s
			s.Rows[row], want.Rows[row] = x.before, x.after
			got, a, e := Apply(s, api.Op{Code: x.code, Row: row, Arg: x.arg})
			if !samples.Same(got, want) || a != x.answer || e != api.OK {
				t.Errorf("P5.1: row %d, code %d, %d of %v: %v, %d, %d; want %v, %d", row, x.code, x.arg, x.before, got, a, e, x.after, x.answer)
			}
		}
	}
}

func TestHowManyInAll(t *testing.T) {
	full := list{200, 0, 255, 200}
	for _, x := range []struct {
		rows [4][]int
		want int
	}{
		{[4][]int{}, 0},
		{[4][]int{{}, {}, {}, {}}, 0},
		{[4][]int{full, full, full, full}, 16},
		{[4][]int{full, nil, nil, nil}, 4},
		{[4][]int{nil, nil, nil, full}, 4},
		{[4][]int{{0}, {0}, {0}, {0}}, 4},
		{[4][]int{{9}, {1, 2}, {7, 7, 7}, nil}, 6},
	} {
		got, a, e := Apply(api.State{Rows: x.rows}, api.Op{Code: api.CodeScan})
		if !samples.Same(got, api.State{Rows: x.rows}) || a != x.want || e != api.OK {
			t.Errorf("P5.1: %v: %v, %d, %d; want %d", x.rows, got, a, e, x.want)
		}
	}
}

func TestEveryKindOfRowAndOperation(t *testing.T) {
	// Each row stands at each place, beside rows that are others each time.
	rows := samples.Rows(0, 1, 254, 255)
	var all []api.State
	for n := range rows {
		at := func(row int) list { return rows[(n+row*85)%len(rows)] }
		all = append(all, samples.State(at(0), at(1), at(2), at(3)))
	}
	if fault := layer().Calls(all, samples.Ops(0, 1, 77, 255)); fault != "" {
		t.Error("P5.1: " + fault)
	}
}

func TestEveryLengthOfEveryRow(t *testing.T) {
	var all []api.State
	for n := range 5 * 5 * 5 * 5 {
		all = append(all, samples.State(list{9, 3, 5, 4}[:n%5], list{0, 255, 0, 255}[:n/5%5], list{7, 7, 7, 7}[:n/25%5], list{1, 2, 3, 4}[:n/125]))
	}
	if fault := layer().Calls(all, samples.Ops(0, 255)); fault != "" {
		t.Error("P5.1: " + fault)
	}
}

func TestEveryNumberAndArgument(t *testing.T) {
	for x := range 256 {
		all := []api.State{
			samples.State(list{x, 3, 5, 4}, list{x, 3, 5}, list{x, 3}, list{x}),
			samples.State(list{9, x, 5, 4}, list{9, x, 5}, list{9, x}, nil),
			samples.State(list{9, 3, x, 4}, list{9, 3, x}, list{x, x}, nil),
			samples.State(list{9, 3, 5, x}, list{x, 3, x}, list{x, x, x, x}, list{}),
		}
		if fault := layer().Calls(all, samples.Ops(x, 255-x)); fault != "" {
			t.Error("P5.1: " + fault)
		}
	}
}

func TestEmptyRowsThatAreNotNil(t *testing.T) {
	if fault := layer().Calls([]api.State{samples.State(list{}, list{}, list{}, list{})}, samples.Ops(0, 3, 255)); fault != "" {
		t.Error("P5.1: " + fault)
	}
}

func TestManyInAndOutInTheirOrder(t *testing.T) {
	for row := range 4 {
		var s api.State
		in, out := 0, 0
		for round := range 400 {
			// Each round fills the row up, and leaves from 0 to 3 numbers in it.
			for ; in-out < 4; in++ {
				s = turned(t, s, api.Op{Code: api.CodeFirst, Row: row, Arg: in % 256}, 1)
			}
			for ; in-out > round%4; out++ {
				s = turned(t, s, api.Op{Code: api.CodeSecond, Row: row}, out%256)
			}
		}
		for ; out < in; out++ {
			s = turned(t, s, api.Op{Code: api.CodeSecond, Row: row}, out%256)
		}
		turned(t, s, api.Op{Code: api.CodeSecond, Row: row}, -1)
	}
}

// turned: what o makes of s, if it answers that.
func turned(t *testing.T, s api.State, o api.Op, answer int) api.State {
	t.Helper()
	got, a, e := Apply(s, o)
	if a != answer || e != api.OK {
		t.Fatalf("P5.1: %v, %v: %d, %d; want %d", s, o, a, e, answer)
	}
	return got
}

func TestFilledAndEmptied(t *testing.T) {
	var s api.State
	for n := range 16 {
		s = turned(t, s, api.Op{Code: api.CodeFirst, Row: n % 4, Arg: n * 17}, 1)
		turned(t, s, api.Op{Code: api.CodeScan}, n+1)
		turned(t, s, api.Op{Code: api.CodeLook, Row: n % 4}, n/4+1)
	}
	for row := range 4 {
		s = turned(t, s, api.Op{Code: api.CodeFirst, Row: row, Arg: 99}, 0)
	}
	for n := range 16 {
		s = turned(t, s, api.Op{Code: api.CodeSecond, Row: n % 4}, n*17)
		turned(t, s, api.Op{Code: api.CodeScan}, 15-n)
		turned(t, s, api.Op{Code: api.CodeLook, Row: n % 4}, 3-n/4)
	}
	for row := range 4 {
		s = turned(t, s, api.Op{Code: api.CodeSecond, Row: row, Arg: 99}, -1)
	}
}

// wrongRows: rows that are too long, or have numbers that are outside.
func wrongRows() [][]int {
	return [][]int{
		{-1}, {256}, {-255}, {-256}, {257}, {1 << 32}, {-1 << 32}, {math.MinInt}, {math.MaxInt},
		{-1, 0}, {0, -1}, {256, 255}, {255, 256}, {0, -1, 0}, {0, 256, 0}, {math.MaxInt, 2}, {2, math.MinInt},
		{-1, 1, 2, 3}, {1, -1, 2, 3}, {1, 2, -1, 3}, {1, 2, 3, -1}, {256, 1, 2, 3}, {1, 256, 2, 3}, {1, 2, 256, 3}, {1, 2, 3, 256},
		{1, 2, 3, 4, 5}, {0, 0, 0, 0, 0}, {255, 255, 255, 255, 255}, {1, 2, 3, 4, -1}, {1, 2, 3, 4, 5, 6}, {256, -1, 256, -1, 256},
		make([]int, 1<<16),
	}
}

func TestStatesThatMayNotBe(t *testing.T) {
	if fault := layer().WrongStates(mixed(), wrongRows()); fault != "" {
		t.Error("P5.1: " + fault)
	}
}

func TestOperationsThatMayNotBe(t *testing.T) {
	if fault := layer().WrongOps(mixed()); fault != "" {
		t.Error("P5.1: " + fault)
	}
}

func TestNothingIsChangedKeptOrShared(t *testing.T) {
	full := list{9, 3, 5, 4}
	all := append(mixed(), samples.State(full, full, full, full), samples.State(full, nil, full, nil),
		samples.State(list{7}, list{7}, list{7, 7, 7}, list{7, 7, 7}), samples.State(list{1, 2}, list{1, 2}, list{2}, nil))
	if fault := layer().Sharing(all, samples.Ops(0, 7, 255)); fault != "" {
		t.Error("R4: " + fault)
	}
}

func TestOneBehindTheOther(t *testing.T) {
	if fault := layer().Behind(samples.Ops(0, 1, 3, 255), 2000); fault != "" {
		t.Error("P5.1: " + fault)
	}
}

func TestAnswersHangOnNothingElse(t *testing.T) {
	for _, s := range mixed() {
		if fault := layer().Together(s, samples.Ops(0, 3)); fault != "" {
			t.Error("R5: " + fault)
		}
	}
}
