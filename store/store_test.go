package store

import (
	"math"
	"testing"

	"chorus/api"
	"chorus/samples"
)

// absent stands for a row that has no number, where a test tells rows as numbers.
const absent = -1

// rows is a store told plainly: a number a row, or absent.
type rows [4]int

// state: the rows as a state.
func (r rows) state() api.State {
	var s api.State
	for i, x := range r {
		if x != absent {
			s.Rows[i] = []int{x}
		}
	}
	return s
}

// rowsFrom: the state as rows told plainly.
func rowsFrom(s api.State) rows {
	r := rows{absent, absent, absent, absent}
	for i, row := range s.Rows {
		for _, x := range row {
			r[i] = x
		}
	}
	return r
}

// want: the chapter's words over rows told plainly.
func want(r rows, o api.Op) (rows, int) {
	if o.Code == 3 {
		total := 0
		for _, x := range r {
			if x != absent {
				total += x
			}
		}
		return r, total
	}
	answer := r[o.Row]
	if o.Code == 0 {
		r[o.Row] = o.Arg
	} else if o.Code == 1 {
		r[o.Row] = absent
	}
	return r, answer
}

// layer: this one.
func layer() samples.Layer {
	words := func(s api.State, o api.Op) (api.State, int) {
		after, answer := want(rowsFrom(s), o)
		return after.state(), answer
	}
	return samples.Layer{Apply: Apply, Want: words, Err: api.ErrStoreForm}
}

// statesOf: these rows, as states.
func statesOf(all ...rows) []api.State {
	var told []api.State
	for _, r := range all {
		told = append(told, r.state())
	}
	return told
}

// someRows: all rows of a few numbers, the edges among them.
func someRows() []rows {
	numbers := []int{absent, 0, 1, 77, 254, 255}
	var all []rows
	for _, a := range numbers {
		for _, b := range numbers {
			for _, c := range numbers {
				for _, d := range numbers {
					all = append(all, rows{a, b, c, d})
				}
			}
		}
	}
	return all
}

// told is a call written out, with what it must answer.
type told struct {
	name   string
	before rows
	op     api.Op
	after  rows
	answer int
}

// updates: calls of the codes that turn a row.
func updates() []told {
	return []told{
		{"CodeFirst, no number", rows{-1, -1, -1, -1}, api.Op{Code: api.CodeFirst, Row: 1, Arg: 9}, rows{-1, 9, -1, -1}, -1},
		{"CodeFirst, a number", rows{3, 4, 5, 6}, api.Op{Code: api.CodeFirst, Row: 1, Arg: 9}, rows{3, 9, 5, 6}, 4},
		{"CodeFirst, the same number", rows{3, 4, 5, 6}, api.Op{Code: api.CodeFirst, Row: 1, Arg: 4}, rows{3, 4, 5, 6}, 4},
		{"CodeFirst, 0 where there is none", rows{-1, 4, 5, 6}, api.Op{Code: api.CodeFirst, Row: 0, Arg: 0}, rows{0, 4, 5, 6}, -1},
		{"CodeFirst, 0 over MaxArg", rows{3, 4, 5, 255}, api.Op{Code: api.CodeFirst, Row: 3, Arg: 0}, rows{3, 4, 5, 0}, 255},
		{"CodeFirst, MaxArg over 0", rows{3, 4, 5, 0}, api.Op{Code: api.CodeFirst, Row: 3, Arg: 255}, rows{3, 4, 5, 255}, 0},
		{"CodeSecond, no number", rows{3, -1, 5, 6}, api.Op{Code: api.CodeSecond, Row: 1}, rows{3, -1, 5, 6}, -1},
		{"CodeSecond, a number", rows{3, 4, 5, 6}, api.Op{Code: api.CodeSecond, Row: 2}, rows{3, 4, -1, 6}, 5},
		{"CodeSecond, 0", rows{0, 4, 5, 6}, api.Op{Code: api.CodeSecond, Row: 0}, rows{-1, 4, 5, 6}, 0},
		{"CodeSecond, MaxArg", rows{3, 4, 5, 255}, api.Op{Code: api.CodeSecond, Row: 3}, rows{3, 4, 5, -1}, 255},
		{"CodeSecond, its argument is another number", rows{3, 4, 5, 6}, api.Op{Code: api.CodeSecond, Row: 2, Arg: 200}, rows{3, 4, -1, 6}, 5},
		{"CodeSecond, its argument is that number", rows{3, 4, 5, 6}, api.Op{Code: api.CodeSecond, Row: 2, Arg: 5}, rows{3, 4, -1, 6}, 5},
	}
}

// views: calls of the codes that turn nothing.
func views() []told {
	return []told{
		{"CodeLook, no number", rows{3, -1, 5, 6}, api.Op{Code: api.CodeLook, Row: 1}, rows{3, -1, 5, 6}, -1},
		{"CodeLook, 0", rows{3, 0, 5, 6}, api.Op{Code: api.CodeLook, Row: 1}, rows{3, 0, 5, 6}, 0},
		{"CodeLook, the first row", rows{3, 4, 5, 6}, api.Op{Code: api.CodeLook, Row: 0}, rows{3, 4, 5, 6}, 3},
		{"CodeLook, the last row", rows{3, 4, 5, 6}, api.Op{Code: api.CodeLook, Row: 3}, rows{3, 4, 5, 6}, 6},
		{"CodeLook, MaxArg", rows{3, 4, 255, 6}, api.Op{Code: api.CodeLook, Row: 2}, rows{3, 4, 255, 6}, 255},
		{"CodeScan, empty rows", rows{-1, -1, -1, -1}, api.Op{Code: api.CodeScan}, rows{-1, -1, -1, -1}, 0},
		{"CodeScan, rows of 0", rows{0, 0, 0, 0}, api.Op{Code: api.CodeScan}, rows{0, 0, 0, 0}, 0},
		{"CodeScan, some rows", rows{-1, 4, -1, 6}, api.Op{Code: api.CodeScan}, rows{-1, 4, -1, 6}, 10},
		{"CodeScan, all rows", rows{3, 4, 5, 6}, api.Op{Code: api.CodeScan}, rows{3, 4, 5, 6}, 18},
		{"CodeScan, rows of MaxArg", rows{255, 255, 255, 255}, api.Op{Code: api.CodeScan}, rows{255, 255, 255, 255}, 1020},
	}
}

func TestCallsWrittenOut(t *testing.T) {
	for _, x := range append(updates(), views()...) {
		got, a, e := Apply(x.before.state(), x.op)
		if !samples.Same(got, x.after.state()) || a != x.answer || e != api.OK {
			t.Errorf("P3.1: %s: %v, %d, %d; want %v, %d", x.name, got, a, e, x.after.state(), x.answer)
		}
	}
}

func TestEveryKindOfStateAndOperation(t *testing.T) {
	if fault := layer().Calls(statesOf(someRows()...), samples.Ops(0, 1, 77, 254, 255)); fault != "" {
		t.Error("P3.1: " + fault)
	}
}

func TestEveryNumberInEveryRow(t *testing.T) {
	for row := range 4 {
		for x := range 256 {
			r := rows{absent, 7, absent, 9}
			r[row] = x
			if fault := layer().Calls(statesOf(r), samples.Ops(x, 255-x)); fault != "" {
				t.Error("P3.1: " + fault)
			}
		}
	}
}

func TestEmptyRowsThatAreNotNil(t *testing.T) {
	s := api.State{Rows: [4][]int{{}, {}, {}, {}}}
	if fault := layer().Calls([]api.State{s}, samples.Ops(0, 255)); fault != "" {
		t.Error("P3.1: " + fault)
	}
}

// wrongRows: rows that no store has.
func wrongRows() [][]int {
	return [][]int{
		{-1}, {256}, {-255}, {-256}, {257}, {1 << 32}, {-1 << 32}, {math.MinInt}, {math.MaxInt},
		{1, 2}, {0, 0}, {255, 255}, {5, -1}, {-1, 5}, {256, 5}, {0, 1, 2}, {0, 1, 2, 3}, make([]int, 1<<16),
	}
}

// mixed: no numbers at all, and one in each row.
func mixed() []api.State {
	return statesOf(rows{absent, absent, absent, absent}, rows{0, 255, 3, 4})
}

func TestStatesThatMayNotBe(t *testing.T) {
	if fault := layer().WrongStates(mixed(), wrongRows()); fault != "" {
		t.Error("P3.1: " + fault)
	}
}

func TestOperationsThatMayNotBe(t *testing.T) {
	if fault := layer().WrongOps(mixed()); fault != "" {
		t.Error("P3.1: " + fault)
	}
}

func TestNothingIsChangedKeptOrShared(t *testing.T) {
	all := statesOf(rows{absent, absent, absent, absent}, rows{0, absent, 255, absent}, rows{1, 2, 3, 4}, rows{1, absent, 3, 255}, rows{5, 5, 5, 5})
	if fault := layer().Sharing(all, samples.Ops(0, 5, 77, 255)); fault != "" {
		t.Error("R4: " + fault)
	}
}

func TestOneBehindTheOther(t *testing.T) {
	if fault := layer().Behind(samples.Ops(0, 3, 255), 2000); fault != "" {
		t.Error("P3.1: " + fault)
	}
}

func TestAnswersHangOnNothingElse(t *testing.T) {
	for _, s := range mixed() {
		if fault := layer().Together(s, samples.Ops(0, 77)); fault != "" {
			t.Error("R5: " + fault)
		}
	}
}
