package fds

import (
	"math"
	"testing"

	"chorus/api"
	"chorus/samples"
)

// table is a state told plainly: in[row][x] is whether x is in the row.
type table [4][4]bool

// state: the table as a state.
func (in table) state() api.State {
	var s api.State
	for row := range 4 {
		for x := range 4 {
			if in[row][x] {
				s.Rows[row] = append(s.Rows[row], x)
			}
		}
	}
	return s
}

// tableFrom: the state as a table.
func tableFrom(s api.State) table {
	var in table
	for row := range 4 {
		for _, x := range s.Rows[row] {
			in[row][x] = true
		}
	}
	return in
}

// tableOf: the n-th of the 65536 tables, four bits a row.
func tableOf(n int) table {
	var in table
	for row := range 4 {
		for x := range 4 {
			in[row][x] = n>>(4*row+x)&1 == 1
		}
	}
	return in
}

// want: the chapter's words over a table.
func want(in table, o api.Op) (table, int) {
	answer := 0
	switch o.Code {
	case 0:
		for x := range 4 {
			if !in[o.Row][x] {
				in[o.Row][x] = true
				return in, x
			}
		}
		answer = -1
	case 1:
		if o.Arg < 4 && in[o.Row][o.Arg] {
			in[o.Row][o.Arg] = false
			answer = 1
		}
	case 2, 3:
		for row := range 4 {
			for x := range 4 {
				if in[row][x] && (o.Code == 3 || row == o.Row) {
					answer++
				}
			}
		}
	}
	return in, answer
}

// layer: this one.
func layer() samples.Layer {
	words := func(s api.State, o api.Op) (api.State, int) {
		after, answer := want(tableFrom(s), o)
		return after.state(), answer
	}
	return samples.Layer{Apply: Apply, Want: words, Err: api.ErrFdsForm}
}

// statesOf: the tables of these numbers, as states.
func statesOf(numbers ...int) []api.State {
	var all []api.State
	for _, n := range numbers {
		all = append(all, tableOf(n).state())
	}
	return all
}

// list is a row of numbers.
type list = []int

// told is a call of one row written out, with what it must answer.
type told struct {
	before list
	code   int
	arg    int
	after  list
	answer int
}

// firsts: the least free number, for each row that may be.
func firsts() []told {
	return []told{
		{nil, api.CodeFirst, 0, list{0}, 0},
		{list{0}, api.CodeFirst, 0, list{0, 1}, 1},
		{list{1}, api.CodeFirst, 0, list{0, 1}, 0},
		{list{2}, api.CodeFirst, 0, list{0, 2}, 0},
		{list{3}, api.CodeFirst, 0, list{0, 3}, 0},
		{list{0, 1}, api.CodeFirst, 0, list{0, 1, 2}, 2},
		{list{0, 2}, api.CodeFirst, 0, list{0, 1, 2}, 1},
		{list{0, 3}, api.CodeFirst, 0, list{0, 1, 3}, 1},
		{list{1, 2}, api.CodeFirst, 0, list{0, 1, 2}, 0},
		{list{1, 3}, api.CodeFirst, 0, list{0, 1, 3}, 0},
		{list{2, 3}, api.CodeFirst, 0, list{0, 2, 3}, 0},
		{list{0, 1, 2}, api.CodeFirst, 0, list{0, 1, 2, 3}, 3},
		{list{0, 1, 3}, api.CodeFirst, 0, list{0, 1, 2, 3}, 2},
		{list{0, 2, 3}, api.CodeFirst, 0, list{0, 1, 2, 3}, 1},
		{list{1, 2, 3}, api.CodeFirst, 0, list{0, 1, 2, 3}, 0},
		{list{0, 1, 2, 3}, api.CodeFirst, 0, list{0, 1, 2, 3}, -1},
		// Its argument is not looked at.
		{list{0, 2}, api.CodeFirst, 3, list{0, 1, 2}, 1},
		{list{0, 2}, api.CodeFirst, 2, list{0, 1, 2}, 1},
		{nil, api.CodeFirst, 255, list{0}, 0},
		{list{0, 1, 2, 3}, api.CodeFirst, 255, list{0, 1, 2, 3}, -1},
	}
}

// others: a number taken out, and how many there are.
func others() []told {
	return []told{
		{nil, api.CodeSecond, 0, nil, 0},
		{list{0}, api.CodeSecond, 0, nil, 1},
		{list{3}, api.CodeSecond, 3, nil, 1},
		{list{3}, api.CodeSecond, 0, list{3}, 0},
		{list{0, 1, 2, 3}, api.CodeSecond, 0, list{1, 2, 3}, 1},
		{list{0, 1, 2, 3}, api.CodeSecond, 1, list{0, 2, 3}, 1},
		{list{0, 1, 2, 3}, api.CodeSecond, 2, list{0, 1, 3}, 1},
		{list{0, 1, 2, 3}, api.CodeSecond, 3, list{0, 1, 2}, 1},
		{list{0, 1, 2, 3}, api.CodeSecond, 4, list{0, 1, 2, 3}, 0},
		{list{0, 1, 2, 3}, api.CodeSecond, 5, list{0, 1, 2, 3}, 0},
		{list{0, 1, 2, 3}, api.CodeSecond, 254, list{0, 1, 2, 3}, 0},
		{list{0, 1, 2, 3}, api.CodeSecond, 255, list{0, 1, 2, 3}, 0},
		{list{0, 1, 3}, api.CodeSecond, 2, list{0, 1, 3}, 0},
		{list{1, 2, 3}, api.CodeSecond, 0, list{1, 2, 3}, 0},
		{nil, api.CodeLook, 0, nil, 0},
		{list{3}, api.CodeLook, 0, list{3}, 1},
		{list{1, 3}, api.CodeLook, 0, list{1, 3}, 2},
		{list{0, 1, 2, 3}, api.CodeLook, 0, list{0, 1, 2, 3}, 4},
	}
}

func TestCallsWrittenOut(t *testing.T) {
	for _, x := range append(firsts(), others()...) {
		for row := range 4 {
			// The other rows are ones that the call must neither count nor turn.
			s := api.State{Rows: [4][]int{{0, 2}, nil, {0, 1, 2, 3}, {3}}}
			want := s
			s.Rows[row], want.Rows[row] = x.before, x.after
			got, a, e := Apply(s, api.Op{Code: x.code, Row: row, Arg: x.arg})
			if !samples.Same(got, want) || a != x.answer || e != api.OK {
				t.Errorf("P4.1: row %d, code %d, %d of %v: %v, %d, %d; want %v, %d", row, x.code, x.arg, x.before, got, a, e, x.after, x.answer)
			}
		}
	}
}

func TestHowManyInAll(t *testing.T) {
	full := list{0, 1, 2, 3}
	for _, x := range []struct {
		rows [4][]int
		want int
	}{
		{[4][]int{}, 0},
		{[4][]int{{}, {}, {}, {}}, 0},
		{[4][]int{full, full, full, full}, 16},
		{[4][]int{full, nil, nil, nil}, 4},
		{[4][]int{nil, nil, nil, full}, 4},
		{[4][]int{{3}, {3}, {3}, {3}}, 4},
		{[4][]int{{0}, {1, 2}, {0, 1, 3}, nil}, 6},
	} {
		got, a, e := Apply(api.State{Rows: x.rows}, api.Op{Code: api.CodeScan})
		if !samples.Same(got, api.State{Rows: x.rows}) || a != x.want || e != api.OK {
			t.Errorf("P4.1: %v: %v, %d, %d; want %d", x.rows, got, a, e, x.want)
		}
	}
}

func TestEveryState(t *testing.T) {
	for n := range 1 << 16 {
		if fault := layer().Call(tableOf(n).state(), api.Op{Code: api.CodeScan}); fault != "" {
			t.Fatal("P4.1: " + fault)
		}
	}
}

func TestEveryOperation(t *testing.T) {
	// Each of the sixteen rows stands at each place, beside rows that are others each time.
	var all []api.State
	for n := 0; n < 1<<16; n += 17 {
		all = append(all, tableOf(n).state())
	}
	if fault := layer().Calls(all, samples.Ops(0, 1, 2, 3, 4, 255)); fault != "" {
		t.Error("P4.1: " + fault)
	}
}

func TestEveryArgument(t *testing.T) {
	for arg := range 256 {
		if fault := layer().Calls(statesOf(0, 0x8421, 0x1248, 0xe7db, 0xffff), samples.Ops(arg)); fault != "" {
			t.Error("P4.1: " + fault)
		}
	}
}

func TestEmptyRowsThatAreNotNil(t *testing.T) {
	s := api.State{Rows: [4][]int{{}, {}, {}, {}}}
	if fault := layer().Calls([]api.State{s}, samples.Ops(0, 3, 255)); fault != "" {
		t.Error("P4.1: " + fault)
	}
}

// wrongRows: rows whose numbers do not rise, stand twice, or are outside.
func wrongRows() [][]int {
	return [][]int{
		{-1}, {4}, {-4}, {5}, {255}, {256}, {1 << 32}, {-1 << 32}, {math.MinInt}, {math.MaxInt},
		{-1, 0}, {-1, 0, 1, 2, 3}, {3, 4}, {0, 4}, {0, 1, 2, 4}, {0, 1, 2, 3, 4}, {0, -1}, {2, math.MaxInt}, {math.MinInt, 2},
		{0, 0}, {1, 1}, {3, 3}, {0, 1, 1}, {0, 0, 1}, {0, 1, 2, 2}, {0, 1, 2, 3, 3}, {0, 0, 0, 0},
		{1, 0}, {2, 1}, {3, 0}, {0, 2, 1}, {1, 2, 0}, {3, 2, 1, 0}, {0, 1, 3, 2}, {1, 0, 2, 3}, {0, 3, 1, 2},
		make([]int, 1<<16),
	}
}

func TestStatesThatMayNotBe(t *testing.T) {
	if fault := layer().WrongStates(statesOf(0, 0xf5a1), wrongRows()); fault != "" {
		t.Error("P4.1: " + fault)
	}
}

// mayBe: is it one of the sixteen rows that may be?
func mayBe(row []int) bool {
	for n := range 16 {
		if samples.Same(tableOf(n).state(), api.State{Rows: [4][]int{row}}) {
			return true
		}
	}
	return false
}

func TestWhichRowsMayBe(t *testing.T) {
	few := 0
	for _, row := range samples.Rows(-1, 0, 1, 2, 3, 4) {
		s := api.State{Rows: [4][]int{1: row}}
		look := layer().Refusal
		if mayBe(row) {
			few++
			look = layer().Call
		}
		if fault := look(s, api.Op{Code: api.CodeLook, Row: 1}); fault != "" {
			t.Error("P4.1: " + fault)
		}
	}
	if few != 16 {
		t.Errorf("%d rows of at most four numbers may be, not 16", few)
	}
}

func TestOperationsThatMayNotBe(t *testing.T) {
	if fault := layer().WrongOps(statesOf(0, 0xf5a1)); fault != "" {
		t.Error("P4.1: " + fault)
	}
}

func TestNothingIsChangedKeptOrShared(t *testing.T) {
	all := statesOf(0, 0xffff, 0xf0f0, 0x1111, 0x8421, 0x5a5a, 0x7bde, 0x7777, 0xeeee)
	if fault := layer().Sharing(all, samples.Ops(0, 1, 2, 3, 4, 255)); fault != "" {
		t.Error("R4: " + fault)
	}
}

func TestOneBehindTheOther(t *testing.T) {
	if fault := layer().Behind(samples.Ops(0, 1, 3, 255), 2000); fault != "" {
		t.Error("P4.1: " + fault)
	}
}

func TestAnswersHangOnNothingElse(t *testing.T) {
	for _, s := range statesOf(0, 0xf5a1) {
		if fault := layer().Together(s, samples.Ops(0, 3)); fault != "" {
			t.Error("R5: " + fault)
		}
	}
}
