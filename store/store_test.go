package store

import (
	"fmt"
	"math"
	"strconv"
	"testing"

	"chorus/api"
	"chorus/samples"
)

// absent stands for a row that has no number, where a test tells rows as numbers.
const absent = -1

// rows is a store told plainly: a number a row, or absent.
type rows [4]int

// state: the rows as a state.
func (r rows) state() api.State {
	var s api.State
	for i, x := range r {
		if x != absent {
			s.Rows[i] = []int{x}
		}
	}
	return s
}

// want: the chapter's words over rows told plainly.
func want(r rows, o api.Op) (rows, int) {
	if o.Code == 3 {
		total := 0
		for _, x := range r {
			if x != absent {
				total += x
			}
		}
		return r, total
	}
	answer := r[o.Row]
	if o.Code == 0 {
		r[o.Row] = o.Arg
	} else if o.Code == 1 {
		r[o.Row] = absent
	}
	return r, answer
}

// check applies o to the rows, and holds what comes against the chapter's words.
func check(t *testing.T, r rows, o api.Op) {
	t.Helper()
	s := r.state()
	after, answer := want(r, o)
	got, a, e := Apply(s, o)
	if !samples.Same(got, after.state()) || a != answer || e != api.OK {
		t.Fatalf("P3.1: %v, %v: %v, %d, %d; want %v, %d", s, o, got, a, e, after.state(), answer)
	}
	if !samples.Same(s, r.state()) {
		t.Fatalf("R4: %v: %v turned to %v", o, r.state(), s)
	}
}

// someRows: all rows of a few numbers, the edges among them.
func someRows() []rows {
	numbers := []int{absent, 0, 1, 77, 254, 255}
	var all []rows
	for _, a := range numbers {
		for _, b := range numbers {
			for _, c := range numbers {
				for _, d := range numbers {
					all = append(all, rows{a, b, c, d})
				}
			}
		}
	}
	return all
}

// told is a call written out, with what it must answer.
type told struct {
	name   string
	before rows
	op     api.Op
	after  rows
	answer int
}

// updates: calls of the codes that turn a row.
func updates() []told {
	return []told{
		{"CodeFirst, no number", rows{-1, -1, -1, -1}, api.Op{Code: api.CodeFirst, Row: 1, Arg: 9}, rows{-1, 9, -1, -1}, -1},
		{"CodeFirst, a number", rows{3, 4, 5, 6}, api.Op{Code: api.CodeFirst, Row: 1, Arg: 9}, rows{3, 9, 5, 6}, 4},
		{"CodeFirst, the same number", rows{3, 4, 5, 6}, api.Op{Code: api.CodeFirst, Row: 1, Arg: 4}, rows{3, 4, 5, 6}, 4},
		{"CodeFirst, 0 where there is none", rows{-1, 4, 5, 6}, api.Op{Code: api.CodeFirst, Row: 0, Arg: 0}, rows{0, 4, 5, 6}, -1},
		{"CodeFirst, 0 over MaxArg", rows{3, 4, 5, 255}, api.Op{Code: api.CodeFirst, Row: 3, Arg: 0}, rows{3, 4, 5, 0}, 255},
		{"CodeFirst, MaxArg over 0", rows{3, 4, 5, 0}, api.Op{Code: api.CodeFirst, Row: 3, Arg: 255}, rows{3, 4, 5, 255}, 0},
		{"CodeSecond, no number", rows{3, -1, 5, 6}, api.Op{Code: api.CodeSecond, Row: 1}, rows{3, -1, 5, 6}, -1},
		{"CodeSecond, a number", rows{3, 4, 5, 6}, api.Op{Code: api.CodeSecond, Row: 2}, rows{3, 4, -1, 6}, 5},
		{"CodeSecond, 0", rows{0, 4, 5, 6}, api.Op{Code: api.CodeSecond, Row: 0}, rows{-1, 4, 5, 6}, 0},
		{"CodeSecond, MaxArg", rows{3, 4, 5, 255}, api.Op{Code: api.CodeSecond, Row: 3}, rows{3, 4, 5, -1}, 255},
		{"CodeSecond, its argument is another number", rows{3, 4, 5, 6}, api.Op{Code: api.CodeSecond, Row: 2, Arg: 200}, rows{3, 4, -1, 6}, 5},
		{"CodeSecond, its argument is that number", rows{3, 4, 5, 6}, api.Op{Code: api.CodeSecond, Row: 2, Arg: 5}, rows{3, 4, -1, 6}, 5},
	}
}

// views: calls of the codes that turn nothing.
func views() []told {
	return []told{
		{"CodeLook, no number", rows{3, -1, 5, 6}, api.Op{Code: api.CodeLook, Row: 1}, rows{3, -1, 5, 6}, -1},
		{"CodeLook, 0", rows{3, 0, 5, 6}, api.Op{Code: api.CodeLook, Row: 1}, rows{3, 0, 5, 6}, 0},
		{"CodeLook, the first row", rows{3, 4, 5, 6}, api.Op{Code: api.CodeLook, Row: 0}, rows{3, 4, 5, 6}, 3},
		{"CodeLook, the last row", rows{3, 4, 5, 6}, api.Op{Code: api.CodeLook, Row: 3}, rows{3, 4, 5, 6}, 6},
		{"CodeLook, MaxArg", rows{3, 4, 255, 6}, api.Op{Code: api.CodeLook, Row: 2}, rows{3, 4, 255, 6}, 255},
		{"CodeScan, empty rows", rows{-1, -1, -1, -1}, api.Op{Code: api.CodeScan}, rows{-1, -1, -1, -1}, 0},
		{"CodeScan, rows of 0", rows{0, 0, 0, 0}, api.Op{Code: api.CodeScan}, rows{0, 0, 0, 0}, 0},
		{"CodeScan, some rows", rows{-1, 4, -1, 6}, api.Op{Code: api.CodeScan}, rows{-1, 4, -1, 6}, 10},
		{"CodeScan, all rows", rows{3, 4, 5, 6}, api.Op{Code: api.CodeScan}, rows{3, 4, 5, 6}, 18},
		{"CodeScan, rows of MaxArg", rows{255, 255, 255, 255}, api.Op{Code: api.CodeScan}, rows{255, 255, 255, 255}, 1020},
	}
}

func TestCallsWrittenOut(t *testing.T) {
	for _, x := range append(updates(), views()...) {
		got, a, e := Apply(x.before.state(), x.op)
		if !samples.Same(got, x.after.state()) || a != x.answer || e != api.OK {
			t.Errorf("P3.1: %s: %v, %d, %d; want %v, %d", x.name, got, a, e, x.after.state(), x.answer)
		}
	}
}

func TestEveryKindOfStateAndOperation(t *testing.T) {
	ops := samples.Ops(0, 1, 77, 254, 255)
	for _, r := range someRows() {
		for _, o := range ops {
			check(t, r, o)
		}
	}
}

func TestEveryNumberInEveryRow(t *testing.T) {
	for row := range 4 {
		for x := range 256 {
			r := rows{absent, 7, absent, 9}
			r[row] = x
			for _, o := range samples.Ops(x, 255-x) {
				check(t, r, o)
			}
		}
	}
}

func TestEmptyRowsThatAreNotNil(t *testing.T) {
	var s api.State
	for i := range s.Rows {
		s.Rows[i] = []int{}
	}
	for _, o := range samples.Ops(0, 255) {
		after, answer := want(rows{absent, absent, absent, absent}, o)
		if got, a, e := Apply(s, o); !samples.Same(got, after.state()) || a != answer || e != api.OK {
			t.Errorf("P3.1: %v of empty rows: %v, %d, %d", o, got, a, e)
		}
	}
}

// wrongRows: rows that no store has.
func wrongRows() [][]int {
	return [][]int{
		{-1}, {256}, {-255}, {-256}, {257}, {1 << 32}, {-1 << 32}, {math.MinInt}, {math.MaxInt},
		{1, 2}, {0, 0}, {255, 255}, {5, -1}, {-1, 5}, {256, 5}, {0, 1, 2}, {0, 1, 2, 3}, make([]int, 1<<16),
	}
}

// refused: is it ErrStoreForm, and zero beside it?
func refused(t *testing.T, s api.State, o api.Op) {
	t.Helper()
	if fault := samples.Refusal(Apply, s, o, api.ErrStoreForm); fault != "" {
		t.Errorf("P3.1: %v: %s; want ErrStoreForm alone", o, fault)
	}
}

func TestStatesThatMayNotBe(t *testing.T) {
	// Each operation is refused, also one that does not touch the row in which the fault is.
	for _, wrong := range wrongRows() {
		for at := range 4 {
			for _, r := range []rows{{absent, absent, absent, absent}, {0, 255, 3, 4}} {
				s := r.state()
				s.Rows[at] = wrong
				for _, o := range samples.Ops(0, 255) {
					refused(t, s, o)
				}
			}
		}
	}
}

func TestOperationsThatMayNotBe(t *testing.T) {
	for _, o := range samples.WrongOps() {
		refused(t, api.State{}, o)
		refused(t, rows{0, 255, 3, 4}.state(), o)
		for _, wrong := range wrongRows() {
			refused(t, api.State{Rows: [4][]int{2: wrong}}, o)
		}
	}
}

func TestNothingIsChangedKeptOrShared(t *testing.T) {
	for _, r := range []rows{{absent, absent, absent, absent}, {0, absent, 255, absent}, {1, 2, 3, 4}, {1, absent, 3, 255}, {5, 5, 5, 5}} {
		for _, o := range append(samples.Ops(0, 5, 77, 255), samples.WrongOps()...) {
			if fault := samples.Sharing(Apply, r.state(), o); fault != "" {
				t.Fatalf("R4: %v of %v: %s", o, r, fault)
			}
		}
	}
}

func TestOneBehindTheOther(t *testing.T) {
	var s api.State
	r := rows{absent, absent, absent, absent}
	ops := samples.Ops(0, 3, 255)
	for n := range 2000 {
		o := ops[(n*7+n/len(ops))%len(ops)]
		after, answer := want(r, o)
		got, a, e := Apply(s, o)
		if !samples.Same(got, after.state()) || a != answer || e != api.OK {
			t.Fatalf("P3.1: call %d: %v, %v: %v, %d, %d", n, s, o, got, a, e)
		}
		s, r = got, after
	}
}

func TestAnswersHangOnNothingElse(t *testing.T) {
	s := rows{1, absent, 3, 255}.state()
	for _, fault := range samples.Together(func() string { return callAll(s, 200) }) {
		t.Error("R5: " + fault)
	}
}

// callAll makes the same calls of one state again and again; "" if each answer is the same every time.
func callAll(s api.State, times int) string {
	for n := range times {
		for _, o := range samples.Ops(0, 77) {
			after, answer := want(rows{1, absent, 3, 255}, o)
			if got, a, e := Apply(s, o); !samples.Same(got, after.state()) || a != answer || e != api.OK {
				return "another answer at call " + strconv.Itoa(n) + " of " + fmt.Sprint(o)
			}
		}
		if got, a, e := Apply(s, api.Op{Code: 4}); !samples.IsZero(got) || a != 0 || e != api.ErrStoreForm {
			return "another refusal at call " + strconv.Itoa(n)
		}
	}
	return ""
}
