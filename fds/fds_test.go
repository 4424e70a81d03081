package fds

import (
	"fmt"
	"math"
	"strconv"
	"testing"

	"chorus/api"
	"chorus/samples"
)

// table is a state told plainly: in[row][x] is whether x is in the row.
type table [4][4]bool

// state: the table as a state.
func (in table) state() api.State {
	var s api.State
	for row := range 4 {
		for x := range 4 {
			if in[row][x] {
				s.Rows[row] = append(s.Rows[row], x)
			}
		}
	}
	return s
}

// tableOf: the n-th of the 65536 tables, four bits a row.
func tableOf(n int) table {
	var in table
	for row := range 4 {
		for x := range 4 {
			in[row][x] = n>>(4*row+x)&1 == 1
		}
	}
	return in
}

// want: the chapter's words over a table.
func want(in table, o api.Op) (table, int) {
	answer := 0
	switch o.Code {
	case 0:
		for x := range 4 {
			if !in[o.Row][x] {
				in[o.Row][x] = true
				return in, x
			}
		}
		answer = -1
	case 1:
		if o.Arg < 4 && in[o.Row][o.Arg] {
			in[o.Row][o.Arg] = false
			answer = 1
		}
	case 2, 3:
		for row := range 4 {
			for x := range 4 {
				if in[row][x] && (o.Code == 3 || row == o.Row) {
					answer++
				}
			}
		}
	}
	return in, answer
}

// check applies o to the table, and holds what comes against the chapter's words.
func check(t *testing.T, in table, o api.Op) {
	t.Helper()
	s := in.state()
	after, answer := want(in, o)
	got, a, e := Apply(s, o)
	if !samples.Same(got, after.state()) || a != answer || e != api.OK {
		t.Fatalf("P4.1: %v, %v: %v, %d, %d; want %v, %d", in.state(), o, got, a, e, after.state(), answer)
	}
	if !samples.Same(s, in.state()) {
		t.Fatalf("R4: %v: %v turned to %v", o, in.state(), s)
	}
}

// list is a row of numbers.
type list = []int

// told is a call of one row written out, with what it must answer.
type told struct {
	before list
	code   int
	arg    int
	after  list
	answer int
}

// firsts: the least free number, for each row that may be.
func firsts() []told {
	return []told{
		{nil, api.CodeFirst, 0, list{0}, 0},
		{list{0}, api.CodeFirst, 0, list{0, 1}, 1},
		{list{1}, api.CodeFirst, 0, list{0, 1}, 0},
		{list{2}, api.CodeFirst, 0, list{0, 2}, 0},
		{list{3}, api.CodeFirst, 0, list{0, 3}, 0},
		{list{0, 1}, api.CodeFirst, 0, list{0, 1, 2}, 2},
		{list{0, 2}, api.CodeFirst, 0, list{0, 1, 2}, 1},
		{list{0, 3}, api.CodeFirst, 0, list{0, 1, 3}, 1},
		{list{1, 2}, api.CodeFirst, 0, list{0, 1, 2}, 0},
		{list{1, 3}, api.CodeFirst, 0, list{0, 1, 3}, 0},
		{list{2, 3}, api.CodeFirst, 0, list{0, 2, 3}, 0},
		{list{0, 1, 2}, api.CodeFirst, 0, list{0, 1, 2, 3}, 3},
		{list{0, 1, 3}, api.CodeFirst, 0, list{0, 1, 2, 3}, 2},
		{list{0, 2, 3}, api.CodeFirst, 0, list{0, 1, 2, 3}, 1},
		{list{1, 2, 3}, api.CodeFirst, 0, list{0, 1, 2, 3}, 0},
		{list{0, 1, 2, 3}, api.CodeFirst, 0, list{0, 1, 2, 3}, -1},
		// Its argument is not looked at.
		{list{0, 2}, api.CodeFirst, 3, list{0, 1, 2}, 1},
		{list{0, 2}, api.CodeFirst, 2, list{0, 1, 2}, 1},
		{nil, api.CodeFirst, 255, list{0}, 0},
		{list{0, 1, 2, 3}, api.CodeFirst, 255, list{0, 1, 2, 3}, -1},
	}
}

// others: a number taken out, and how many there are.
func others() []told {
	return []told{
		{nil, api.CodeSecond, 0, nil, 0},
		{list{0}, api.CodeSecond, 0, nil, 1},
		{list{3}, api.CodeSecond, 3, nil, 1},
		{list{3}, api.CodeSecond, 0, list{3}, 0},
		{list{0, 1, 2, 3}, api.CodeSecond, 0, list{1, 2, 3}, 1},
		{list{0, 1, 2, 3}, api.CodeSecond, 1, list{0, 2, 3}, 1},
		{list{0, 1, 2, 3}, api.CodeSecond, 2, list{0, 1, 3}, 1},
		{list{0, 1, 2, 3}, api.CodeSecond, 3, list{0, 1, 2}, 1},
		{list{0, 1, 2, 3}, api.CodeSecond, 4, list{0, 1, 2, 3}, 0},
		{list{0, 1, 2, 3}, api.CodeSecond, 5, list{0, 1, 2, 3}, 0},
		{list{0, 1, 2, 3}, api.CodeSecond, 254, list{0, 1, 2, 3}, 0},
		{list{0, 1, 2, 3}, api.CodeSecond, 255, list{0, 1, 2, 3}, 0},
		{list{0, 1, 3}, api.CodeSecond, 2, list{0, 1, 3}, 0},
		{list{1, 2, 3}, api.CodeSecond, 0, list{1, 2, 3}, 0},
		{nil, api.CodeLook, 0, nil, 0},
		{list{3}, api.CodeLook, 0, list{3}, 1},
		{list{1, 3}, api.CodeLook, 0, list{1, 3}, 2},
		{list{0, 1, 2, 3}, api.CodeLook, 0, list{0, 1, 2, 3}, 4},
	}
}

func TestCallsWrittenOut(t *testing.T) {
	for _, x := range append(firsts(), others()...) {
		for row := range 4 {
			// The other rows are ones that the call must neither count nor turn.
			s := api.State{Rows: [4][]int{{0, 2}, nil, {0, 1, 2, 3}, {3}}}
			want := s
			s.Rows[row], want.Rows[row] = x.before, x.after
			got, a, e := Apply(s, api.Op{Code: x.code, Row: row, Arg: x.arg})
			if !samples.Same(got, want) || a != x.answer || e != api.OK {
				t.Errorf("P4.1: row %d, code %d, %d of %v: %v, %d, %d; want %v, %d", row, x.code, x.arg, x.before, got, a, e, x.after, x.answer)
			}
		}
	}
}

func TestHowManyInAll(t *testing.T) {
	full := list{0, 1, 2, 3}
	for _, x := range []struct {
		rows [4][]int
		want int
	}{
		{[4][]int{}, 0},
		{[4][]int{{}, {}, {}, {}}, 0},
		{[4][]int{full, full, full, full}, 16},
		{[4][]int{full, nil, nil, nil}, 4},
		{[4][]int{nil, nil, nil, full}, 4},
		{[4][]int{{3}, {3}, {3}, {3}}, 4},
		{[4][]int{{0}, {1, 2}, {0, 1, 3}, nil}, 6},
	} {
		got, a, e := Apply(api.State{Rows: x.rows}, api.Op{Code: api.CodeScan})
		if !samples.Same(got, api.State{Rows: x.rows}) || a != x.want || e != api.OK {
			t.Errorf("P4.1: %v: %v, %d, %d; want %d", x.rows, got, a, e, x.want)
		}
	}
}

func TestEveryState(t *testing.T) {
	for n := range 1 << 16 {
		check(t, tableOf(n), api.Op{Code: api.CodeScan})
	}
}

func TestEveryOperation(t *testing.T) {
	// Each of the sixteen rows stands at each place, beside rows that are others each time.
	ops := samples.Ops(0, 1, 2, 3, 4, 255)
	for n := 0; n < 1<<16; n += 17 {
		for _, o := range ops {
			check(t, tableOf(n), o)
		}
	}
}

func TestEveryArgument(t *testing.T) {
	for arg := range 256 {
		for _, n := range []int{0, 0x8421, 0x1248, 0xe7db, 0xffff} {
			for _, o := range samples.Ops(arg) {
				check(t, tableOf(n), o)
			}
		}
	}
}

func TestEmptyRowsThatAreNotNil(t *testing.T) {
	s := api.State{Rows: [4][]int{{}, {}, {}, {}}}
	for _, o := range samples.Ops(0, 3, 255) {
		after, answer := want(table{}, o)
		if got, a, e := Apply(s, o); !samples.Same(got, after.state()) || a != answer || e != api.OK {
			t.Errorf("P4.1: %v of empty rows: %v, %d, %d", o, got, a, e)
		}
	}
}

// wrongRows: rows whose numbers do not rise, stand twice, or are outside.
func wrongRows() [][]int {
	return [][]int{
		{-1}, {4}, {-4}, {5}, {255}, {256}, {1 << 32}, {-1 << 32}, {math.MinInt}, {math.MaxInt},
		{-1, 0}, {-1, 0, 1, 2, 3}, {3, 4}, {0, 4}, {0, 1, 2, 4}, {0, 1, 2, 3, 4}, {0, -1}, {2, math.MaxInt}, {math.MinInt, 2},
		{0, 0}, {1, 1}, {3, 3}, {0, 1, 1}, {0, 0, 1}, {0, 1, 2, 2}, {0, 1, 2, 3, 3}, {0, 0, 0, 0},
		{1, 0}, {2, 1}, {3, 0}, {0, 2, 1}, {1, 2, 0}, {3, 2, 1, 0}, {0, 1, 3, 2}, {1, 0, 2, 3}, {0, 3, 1, 2},
		make([]int, 1<<16),
	}
}

// refused: is it ErrFdsForm, and zero beside it?
func refused(t *testing.T, s api.State, o api.Op) {
	t.Helper()
	if fault := samples.Refusal(Apply, s, o, api.ErrFdsForm); fault != "" {
		t.Errorf("P4.1: %v: %s; want ErrFdsForm alone", o, fault)
	}
}

func TestStatesThatMayNotBe(t *testing.T) {
	// Each operation is refused, also one that does not touch the row in which the fault is.
	for _, wrong := range wrongRows() {
		for at := range 4 {
			for _, n := range []int{0, 0xf5a1} {
				s := tableOf(n).state()
				s.Rows[at] = wrong
				for _, o := range samples.Ops(0, 255) {
					refused(t, s, o)
				}
			}
		}
	}
}

// shortRows: every row of at most three numbers from -1 to 4.
func shortRows() [][]int {
	all := [][]int{nil}
	for from := 0; len(all[from]) < 3; from++ {
		for x := -1; x <= 4; x++ {
			all = append(all, append(list{}, append(all[from], x)...))
		}
	}
	return all
}

// mayBe: is it one of the sixteen rows that may be?
func mayBe(row []int) bool {
	for n := range 16 {
		if samples.Same(tableOf(n).state(), api.State{Rows: [4][]int{row}}) {
			return true
		}
	}
	return false
}

func TestWhichShortRowsMayBe(t *testing.T) {
	few := 0
	for _, row := range shortRows() {
		s := api.State{Rows: [4][]int{1: row}}
		if !mayBe(row) {
			refused(t, s, api.Op{Code: api.CodeLook})
			continue
		}
		few++
		if got, a, e := Apply(s, api.Op{Code: api.CodeLook, Row: 1}); !samples.Same(got, s) || a != len(row) || e != api.OK {
			t.Errorf("P4.1: %v: %v, %d, %d", s, got, a, e)
		}
	}
	if few != 15 {
		t.Errorf("%d rows of at most three numbers may be, not 15", few)
	}
}

func TestOperationsThatMayNotBe(t *testing.T) {
	for _, o := range samples.WrongOps() {
		refused(t, api.State{}, o)
		refused(t, tableOf(0xf5a1).state(), o)
		for _, wrong := range wrongRows() {
			refused(t, api.State{Rows: [4][]int{2: wrong}}, o)
		}
	}
}

func TestNothingIsChangedKeptOrShared(t *testing.T) {
	for _, n := range []int{0, 0xffff, 0xf0f0, 0x1111, 0x8421, 0x5a5a, 0x7bde, 0x7777, 0xeeee} {
		s := tableOf(n).state()
		for _, o := range append(samples.Ops(0, 1, 2, 3, 4, 255), samples.WrongOps()...) {
			if fault := samples.Sharing(Apply, s, o); fault != "" {
				t.Fatalf("R4: %v of %v: %s", o, s, fault)
			}
		}
	}
}

func TestOneBehindTheOther(t *testing.T) {
	var s api.State
	var in table
	ops := samples.Ops(0, 1, 3, 255)
	for n := range 2000 {
		o := ops[(n*7+n/len(ops))%len(ops)]
		after, answer := want(in, o)
		got, a, e := Apply(s, o)
		if !samples.Same(got, after.state()) || a != answer || e != api.OK {
			t.Fatalf("P4.1: call %d: %v, %v: %v, %d, %d", n, s, o, got, a, e)
		}
		s, in = got, after
	}
}

func TestAnswersHangOnNothingElse(t *testing.T) {
	s := tableOf(0xf5a1).state()
	for _, fault := range samples.Together(func() string { return callAll(s, 200) }) {
		t.Error("R5: " + fault)
	}
}

// callAll makes the same calls of one state again and again; "" if each answer is the same every time.
func callAll(s api.State, times int) string {
	for n := range times {
		for _, o := range samples.Ops(0, 3) {
			after, answer := want(tableOf(0xf5a1), o)
			if got, a, e := Apply(s, o); !samples.Same(got, after.state()) || a != answer || e != api.OK {
				return "another answer at call " + strconv.Itoa(n) + " of " + fmt.Sprint(o)
			}
		}
		if got, a, e := Apply(s, api.Op{Code: 4}); !samples.IsZero(got) || a != 0 || e != api.ErrFdsForm {
			return "another refusal at call " + strconv.Itoa(n)
		}
	}
	return ""
}
