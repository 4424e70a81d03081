package store

import (
	"fmt"
	"math"
	"slices"
	"strconv"
	"sync"
	"testing"

	"chorus/api"
)

// absent stands for a row that has no number, where a test tells rows as numbers.
const absent = -1

// rows is a store told plainly: a number a row, or absent.
type rows [4]int

// state: the rows as a state.
func (r rows) state() api.State {
	var s api.State
	for i, x := range r {
		if x != absent {
			s.Rows[i] = []int{x}
		}
	}
	return s
}

// same: are the states' numbers the same ones? (An empty row and nil are one.)
func same(s, t api.State) bool {
	for i := range s.Rows {
		if !slices.Equal(s.Rows[i], t.Rows[i]) {
			return false
		}
	}
	return true
}

// isZero: is it the state's zero value, nil rows and all?
func isZero(s api.State) bool {
	for _, row := range s.Rows {
		if row != nil {
			return false
		}
	}
	return true
}

// deep: a copy that no call under test has made.
func deep(s api.State) api.State {
	var t api.State
	for i, row := range s.Rows {
		for _, x := range row {
			t.Rows[i] = append(t.Rows[i], x)
		}
	}
	return t
}

// want: the chapter's words over rows told plainly.
func want(r rows, o api.Op) (rows, int) {
	if o.Code == 3 {
		total := 0
		for _, x := range r {
			if x != absent {
				total += x
			}
		}
		return r, total
	}
	answer := r[o.Row]
	if o.Code == 0 {
		r[o.Row] = o.Arg
	} else if o.Code == 1 {
		r[o.Row] = absent
	}
	return r, answer
}

// check applies o to the rows, and holds what comes against the chapter's words.
func check(t *testing.T, r rows, o api.Op) {
	t.Helper()
	s := r.state()
	after, answer := want(r, o)
	got, a, e := Apply(s, o)
	if !same(got, after.state()) || a != answer || e != api.OK {
		t.Fatalf("P3.1: %v, %v: %v, %d, %d; want %v, %d", s, o, got, a, e, after.state(), answer)
	}
	if !same(s, r.state()) {
		t.Fatalf("R4: %v: %v turned to %v", o, r.state(), s)
	}
}

// someRows: all rows of a few numbers, the edges among them.
func someRows() []rows {
	numbers := []int{absent, 0, 1, 77, 254, 255}
	var all []rows
	for _, a := range numbers {
		for _, b := range numbers {
			for _, c := range numbers {
				for _, d := range numbers {
					all = append(all, rows{a, b, c, d})
				}
			}
		}
	}
	return all
}

// opsOf: every operation that may be, with these arguments where its code has one.
func opsOf(args ...int) []api.Op {
	ops := []api.Op{{Code: 3}}
	for row := range 4 {
		ops = append(ops, api.Op{Code: 2, Row: row})
		for _, arg := range args {
			ops = append(ops, api.Op{Code: 0, Row: row, Arg: arg}, api.Op{Code: 1, Row: row, Arg: arg})
		}
	}
	return ops
}

// told is a call written out, with what it must answer.
type told struct {
	name   string
	before rows
	op     api.Op
	after  rows
	answer int
}

// updates: calls of the codes that turn a row.
func updates() []told {
	return []told{
		{"CodeFirst, no number", rows{-1, -1, -1, -1}, api.Op{Code: api.CodeFirst, Row: 1, Arg: 9}, rows{-1, 9, -1, -1}, -1},
		{"CodeFirst, a number", rows{3, 4, 5, 6}, api.Op{Code: api.CodeFirst, Row: 1, Arg: 9}, rows{3, 9, 5, 6}, 4},
		{"CodeFirst, the same number", rows{3, 4, 5, 6}, api.Op{Code: api.CodeFirst, Row: 1, Arg: 4}, rows{3, 4, 5, 6}, 4},
		{"CodeFirst, 0 where there is none", rows{-1, 4, 5, 6}, api.Op{Code: api.CodeFirst, Row: 0, Arg: 0}, rows{0, 4, 5, 6}, -1},
		{"CodeFirst, 0 over MaxArg", rows{3, 4, 5, 255}, api.Op{Code: api.CodeFirst, Row: 3, Arg: 0}, rows{3, 4, 5, 0}, 255},
		{"CodeFirst, MaxArg over 0", rows{3, 4, 5, 0}, api.Op{Code: api.CodeFirst, Row: 3, Arg: 255}, rows{3, 4, 5, 255}, 0},
		{"CodeSecond, no number", rows{3, -1, 5, 6}, api.Op{Code: api.CodeSecond, Row: 1}, rows{3, -1, 5, 6}, -1},
		{"CodeSecond, a number", rows{3, 4, 5, 6}, api.Op{Code: api.CodeSecond, Row: 2}, rows{3, 4, -1, 6}, 5},
		{"CodeSecond, 0", rows{0, 4, 5, 6}, api.Op{Code: api.CodeSecond, Row: 0}, rows{-1, 4, 5, 6}, 0},
		{"CodeSecond, MaxArg", rows{3, 4, 5, 255}, api.Op{Code: api.CodeSecond, Row: 3}, rows{3, 4, 5, -1}, 255},
		{"CodeSecond, its argument is another number", rows{3, 4, 5, 6}, api.Op{Code: api.CodeSecond, Row: 2, Arg: 200}, rows{3, 4, -1, 6}, 5},
		{"CodeSecond, its argument is that number", rows{3, 4, 5, 6}, api.Op{Code: api.CodeSecond, Row: 2, Arg: 5}, rows{3, 4, -1, 6}, 5},
	}
}

// views: calls of the codes that turn nothing.
func views() []told {
	return []told{
		{"CodeLook, no number", rows{3, -1, 5, 6}, api.Op{Code: api.CodeLook, Row: 1}, rows{3, -1, 5, 6}, -1},
		{"CodeLook, 0", rows{3, 0, 5, 6}, api.Op{Code: api.CodeLook, Row: 1}, rows{3, 0, 5, 6}, 0},
		{"CodeLook, the first row", rows{3, 4, 5, 6}, api.Op{Code: api.CodeLook, Row: 0}, rows{3, 4, 5, 6}, 3},
		{"CodeLook, the last row", rows{3, 4, 5, 6}, api.Op{Code: api.CodeLook, Row: 3}, rows{3, 4, 5, 6}, 6},
		{"CodeLook, MaxArg", rows{3, 4, 255, 6}, api.Op{Code: api.CodeLook, Row: 2}, rows{3, 4, 255, 6}, 255},
		{"CodeScan, empty rows", rows{-1, -1, -1, -1}, api.Op{Code: api.CodeScan}, rows{-1, -1, -1, -1}, 0},
		{"CodeScan, rows of 0", rows{0, 0, 0, 0}, api.Op{Code: api.CodeScan}, rows{0, 0, 0, 0}, 0},
		{"CodeScan, some rows", rows{-1, 4, -1, 6}, api.Op{Code: api.CodeScan}, rows{-1, 4, -1, 6}, 10},
		{"CodeScan, all rows", rows{3, 4, 5, 6}, api.Op{Code: api.CodeScan}, rows{3, 4, 5, 6}, 18},
		{"CodeScan, rows of MaxArg", rows{255, 255, 255, 255}, api.Op{Code: api.CodeScan}, rows{255, 255, 255, 255}, 1020},
	}
}

func TestCallsWrittenOut(t *testing.T) {
	for _, x := range append(updates(), views()...) {
		got, a, e := Apply(x.before.state(), x.op)
		if !same(got, x.after.state()) || a != x.answer || e != api.OK {
			t.Errorf("P3.1: %s: %v, %d, %d; want %v, %d", x.name, got, a, e, x.after.state(), x.answer)
		}
	}
}

func TestEveryKindOfStateAndOperation(t *testing.T) {
	ops := opsOf(0, 1, 77, 254, 255)
	for _, r := range someRows() {
		for _, o := range ops {
			check(t, r, o)
		}
	}
}

func TestEveryNumberInEveryRow(t *testing.T) {
	for row := range 4 {
		for x := range 256 {
			r := rows{absent, 7, absent, 9}
			r[row] = x
			for _, o := range opsOf(x, 255-x) {
				check(t, r, o)
			}
		}
	}
}

func TestEmptyRowsThatAreNotNil(t *testing.T) {
	var s api.State
	for i := range s.Rows {
		s.Rows[i] = []int{}
	}
	for _, o := range opsOf(0, 255) {
		after, answer := want(rows{absent, absent, absent, absent}, o)
		if got, a, e := Apply(s, o); !same(got, after.state()) || a != answer || e != api.OK {
			t.Errorf("P3.1: %v of empty rows: %v, %d, %d", o, got, a, e)
		}
	}
}

// wrongRows: rows that no store has.
func wrongRows() [][]int {
	return [][]int{
		{-1}, {256}, {-255}, {-256}, {257}, {1 << 32}, {-1 << 32}, {math.MinInt}, {math.MaxInt},
		{1, 2}, {0, 0}, {255, 255}, {5, -1}, {-1, 5}, {256, 5}, {0, 1, 2}, {0, 1, 2, 3}, make([]int, 1<<16),
	}
}

// refused: is it ErrStoreForm, and zero beside it?
func refused(t *testing.T, s api.State, o api.Op) {
	t.Helper()
	old := deep(s)
	if got, a, e := Apply(s, o); !isZero(got) || a != 0 || e != api.ErrStoreForm {
		t.Errorf("P3.1: %v: %v, %d, %d; want ErrStoreForm alone", o, got, a, e)
	}
	if !same(s, old) {
		t.Errorf("R4: %v: a state that was refused is changed", o)
	}
}

func TestStatesThatMayNotBe(t *testing.T) {
	// Each operation is refused, also one that does not touch the row in which the fault is.
	for _, wrong := range wrongRows() {
		for at := range 4 {
			for _, r := range []rows{{absent, absent, absent, absent}, {0, 255, 3, 4}} {
				s := r.state()
				s.Rows[at] = wrong
				for _, o := range opsOf(0, 255) {
					refused(t, s, o)
				}
			}
		}
	}
}

// wrongOps: operations that may not be.
func wrongOps() []api.Op {
	ops := []api.Op{{Code: 2, Arg: 1}, {Code: 2, Row: 3, Arg: 255}, {Code: 3, Arg: 1}, {Code: 3, Row: 1}, {Code: 3, Row: 3}, {Code: 3, Row: 1, Arg: 1}}
	for _, code := range []int{math.MinInt, -256, -1, 4, 5, 256, 257, math.MaxInt} {
		ops = append(ops, api.Op{Code: code}, api.Op{Code: code, Row: 2, Arg: 9})
	}
	for code := range 4 {
		for _, row := range []int{math.MinInt, -4, -1, 4, 5, 256, math.MaxInt} {
			ops = append(ops, api.Op{Code: code, Row: row})
		}
		for _, arg := range []int{math.MinInt, -255, -1, 256, 300, math.MaxInt} {
			ops = append(ops, api.Op{Code: code, Arg: arg})
		}
	}
	return ops
}

func TestOperationsThatMayNotBe(t *testing.T) {
	for _, o := range wrongOps() {
		refused(t, api.State{}, o)
		refused(t, rows{0, 255, 3, 4}.state(), o)
		for _, wrong := range wrongRows() {
			refused(t, api.State{Rows: [4][]int{2: wrong}}, o)
		}
	}
}

// spare is what stands in the room behind the rows that a test hands in.
const spare = 99

// roomy: the rows as pieces of one list, with room behind each that is another row's or nobody's.
func roomy(r rows) (api.State, []int) {
	room := slices.Repeat([]int{spare}, 16)
	var s api.State
	for i, x := range r {
		s.Rows[i] = room[4*i : 4*i : 16]
		if x != absent {
			room[4*i] = x
			s.Rows[i] = room[4*i : 4*i+1 : 16]
		}
	}
	return s, room
}

// scribble writes over a state's rows and over all the room behind them.
func scribble(s api.State) {
	for _, row := range s.Rows {
		row = row[:cap(row)]
		for i := range row {
			row[i] = -7
		}
	}
}

func TestWhatIsGivenStays(t *testing.T) {
	for _, r := range []rows{{absent, absent, absent, absent}, {0, absent, 255, absent}, {1, 2, 3, 4}} {
		for _, o := range append(opsOf(0, 77, 255), wrongOps()...) {
			s, room := roomy(r)
			old := slices.Clone(room)
			got, _, _ := Apply(s, o)
			if !slices.Equal(room, old) || !same(s, r.state()) {
				t.Fatalf("R4: %v of %v changes what is given, or its spare room: %v", o, r, room)
			}
			scribble(got)
			if !slices.Equal(room, old) || !same(s, r.state()) {
				t.Fatalf("R4: %v of %v answers memory that was given: %v", o, r, room)
			}
		}
	}
}

func TestAnswersKeepNothingOfWhatIsGiven(t *testing.T) {
	for _, o := range opsOf(0, 77, 255) {
		r := rows{1, absent, 3, 255}
		s, _ := roomy(r)
		after, _ := want(r, o)
		got, _, _ := Apply(s, o)
		scribble(s)
		if !same(got, after.state()) {
			t.Fatalf("R4: %v: the answer turns with what was given: %v", o, got)
		}
	}
}

func TestAnswersShareNothingWithEachOther(t *testing.T) {
	for _, o := range opsOf(0, 77, 255) {
		r := rows{1, absent, 3, 255}
		after, _ := want(r, o)
		s := r.state()
		one, _, _ := Apply(s, o)
		other, _, _ := Apply(s, o)
		scribble(one)
		if !same(other, after.state()) {
			t.Fatalf("R4: %v: two answers share memory: %v", o, other)
		}
	}
}

func TestRowsOfOneAnswerShareNothing(t *testing.T) {
	shared := []int{5}
	for _, o := range opsOf(5, 6) {
		got, _, _ := Apply(api.State{Rows: [4][]int{shared, shared, shared, shared}}, o)
		after, _ := want(rows{5, 5, 5, 5}, o)
		for i := range got.Rows {
			scribble(api.State{Rows: [4][]int{got.Rows[i]}})
			for j := i + 1; j < 4; j++ {
				if !slices.Equal(got.Rows[j], after.state().Rows[j]) {
					t.Fatalf("R4: %v: rows %d and %d of the answer share memory", o, i, j)
				}
			}
		}
	}
}

func TestOneBehindTheOther(t *testing.T) {
	var s api.State
	r := rows{absent, absent, absent, absent}
	ops := opsOf(0, 3, 255)
	for n := range 2000 {
		o := ops[(n*7+n/len(ops))%len(ops)]
		after, answer := want(r, o)
		got, a, e := Apply(s, o)
		if !same(got, after.state()) || a != answer || e != api.OK {
			t.Fatalf("P3.1: call %d: %v, %v: %v, %d, %d", n, s, o, got, a, e)
		}
		s, r = got, after
	}
}

func TestAnswersHangOnNothingElse(t *testing.T) {
	s := rows{1, absent, 3, 255}.state()
	faults := make([]string, 8)
	var wait sync.WaitGroup
	for i := range faults {
		wait.Go(func() { faults[i] = callAll(s, 200) })
	}
	wait.Wait()
	for _, fault := range faults {
		if fault != "" {
			t.Error("R5: " + fault)
		}
	}
}

// callAll makes the same calls of one state again and again; "" if each answer is the same every time.
func callAll(s api.State, times int) string {
	for n := range times {
		for _, o := range opsOf(0, 77) {
			after, answer := want(rows{1, absent, 3, 255}, o)
			if got, a, e := Apply(s, o); !same(got, after.state()) || a != answer || e != api.OK {
				return "another answer at call " + strconv.Itoa(n) + " of " + fmt.Sprint(o)
			}
		}
		if got, a, e := Apply(s, api.Op{Code: 4}); !isZero(got) || a != 0 || e != api.ErrStoreForm {
			return "another refusal at call " + strconv.Itoa(n)
		}
	}
	return ""
}
