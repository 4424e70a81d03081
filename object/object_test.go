package object

import (
	"math"
	"slices"
	"testing"

	"chorus/api"
	"chorus/fds"
	"chorus/queue"
	"chorus/samples"
	"chorus/store"
)

// list is a row of numbers.
type list = []int

// kind is an object, the call of its own layer, states that may be such, and rows that may not.
type kind struct {
	object int
	own    samples.Apply
	fair   []api.State
	wrong  [][]int
}

// kinds: the three of them, by the document's numbers.
func kinds() []kind {
	return []kind{
		{0, store.Apply, []api.State{{}, samples.State(list{9}, nil, list{0}, list{255})}, samples.WrongRows(0)},
		{1, fds.Apply, []api.State{{}, samples.State(list{0, 1, 2, 3}, nil, list{1, 3}, list{2})}, samples.WrongRows(1)},
		{2, queue.Apply, []api.State{{}, samples.State(list{9, 0, 255, 9}, nil, list{3, 0}, list{7, 7, 7})}, samples.WrongRows(2)},
	}
}

// of: the call of this object.
func of(object int) samples.Apply {
	return func(s api.State, o api.Op) (api.State, int, api.Errno) { return Apply(object, s, o) }
}

// layer: this one's call of the object, held against what the object's own layer answers.
func (k kind) layer() samples.Layer {
	want := func(s api.State, o api.Op) (api.State, int) {
		t, answer, _ := k.own(s, o)
		return t, answer
	}
	return samples.Layer{Apply: of(k.object), Want: want, Err: api.ErrObjectForm}
}

// told is a call of row 2 written out, with what it must answer.
type told struct {
	object int
	before list
	code   int
	arg    int
	after  list
	answer int
}

// calls: the same rows and operations, of objects that answer unlike things.
func calls() []told {
	return []told{
		{api.ObjectStore, nil, api.CodeFirst, 3, list{3}, -1},
		{api.ObjectFds, nil, api.CodeFirst, 3, list{0}, 0},
		{api.ObjectQueue, nil, api.CodeFirst, 3, list{3}, 1},

		{api.ObjectStore, list{2}, api.CodeFirst, 1, list{1}, 2},
		{api.ObjectFds, list{2}, api.CodeFirst, 1, list{0, 2}, 0},
		{api.ObjectQueue, list{2}, api.CodeFirst, 1, list{2, 1}, 1},

		{api.ObjectStore, nil, api.CodeSecond, 0, nil, -1},
		{api.ObjectFds, nil, api.CodeSecond, 0, nil, 0},
		{api.ObjectQueue, nil, api.CodeSecond, 0, nil, -1},

		{api.ObjectStore, list{2}, api.CodeSecond, 1, nil, 2},
		{api.ObjectFds, list{2}, api.CodeSecond, 1, list{2}, 0},
		{api.ObjectFds, list{2}, api.CodeSecond, 2, nil, 1},
		{api.ObjectQueue, list{2}, api.CodeSecond, 1, nil, 2},

		{api.ObjectStore, nil, api.CodeLook, 0, nil, -1},
		{api.ObjectFds, nil, api.CodeLook, 0, nil, 0},
		{api.ObjectQueue, nil, api.CodeLook, 0, nil, 0},

		{api.ObjectStore, list{2}, api.CodeLook, 0, list{2}, 2},
		{api.ObjectFds, list{2}, api.CodeLook, 0, list{2}, 1},
		{api.ObjectQueue, list{2}, api.CodeLook, 0, list{2}, 1},

		{api.ObjectFds, list{0, 1, 2, 3}, api.CodeFirst, 0, list{0, 1, 2, 3}, -1},
		{api.ObjectQueue, list{0, 1, 2, 3}, api.CodeFirst, 0, list{0, 1, 2, 3}, 0},
		{api.ObjectFds, list{0, 1, 2, 3}, api.CodeSecond, 2, list{0, 1, 3}, 1},
		{api.ObjectQueue, list{0, 1, 2, 3}, api.CodeSecond, 2, list{1, 2, 3}, 0},
	}
}

func TestCallsWrittenOut(t *testing.T) {
	for _, x := range calls() {
		s, want := samples.State(list{1}, nil, x.before, list{3}), samples.State(list{1}, nil, x.after, list{3})
		got, a, e := Apply(x.object, s, api.Op{Code: x.code, Row: 2, Arg: x.arg})
		if !samples.Same(got, want) || a != x.answer || e != api.OK {
			t.Errorf("P6.1: object %d, code %d, %d of %v: %v, %d, %d; want %v, %d", x.object, x.code, x.arg, x.before, got, a, e, want, x.answer)
		}
	}
}

func TestScansWrittenOut(t *testing.T) {
	s := samples.State(list{1}, nil, list{2}, list{3})
	for object, want := range []int{6, 3, 3} {
		got, a, e := Apply(object, s, api.Op{Code: api.CodeScan})
		if !samples.Same(got, s) || a != want || e != api.OK {
			t.Errorf("P6.1: object %d: %v, %d, %d; want %d", object, got, a, e, want)
		}
	}
}

// manyStates: each row of a few numbers at each place, beside ones that are of every object, and beside ones like it.
func manyStates() []api.State {
	all := []api.State{{}, samples.State(list{}, list{}, list{}, list{})}
	for _, row := range samples.Rows(0, 1, 3, 4, 255) {
		all = append(all, samples.State(row, list{1}, nil, list{3}), samples.State(nil, row, list{}, list{2}), samples.State(list{0}, nil, row), samples.State(nil, nil, nil, row), samples.State(row, row, row, row))
	}
	return all
}

// parted: the states that may be such by the words of the object's own layer, and those that may not.
func (k kind) parted(all []api.State) (fair, wrong []api.State) {
	for _, s := range all {
		if _, _, e := k.own(s, api.Op{Code: api.CodeScan}); e == api.OK {
			fair = append(fair, s)
		} else {
			wrong = append(wrong, s)
		}
	}
	return fair, wrong
}

func TestEachAnswersAsItsOwnLayerDoes(t *testing.T) {
	for _, k := range kinds() {
		fair, wrong := k.parted(append(manyStates(), samples.State(nil, list{-1})))
		if len(fair) < 30 || len(wrong) == 0 {
			t.Errorf("object %d: %d states that may be, %d that may not", k.object, len(fair), len(wrong))
		}
		if fault := k.layer().Calls(fair, samples.Ops(0, 2, 255)); fault != "" {
			t.Errorf("P6.1: object %d: %s", k.object, fault)
		}
		if slices.ContainsFunc(fair, func(s api.State) bool { return !May(k.object, s) }) {
			t.Errorf("P6.1: object %d: May refuses a state", k.object)
		}
		if slices.ContainsFunc(wrong, func(s api.State) bool { return May(k.object, s) }) {
			t.Errorf("P6.1: object %d: May lets a state in", k.object)
		}
	}
}

func TestEveryNumberAndArgument(t *testing.T) {
	for x := range 256 {
		for _, k := range kinds() {
			all := slices.Concat(k.fair, []api.State{samples.State(nil, list{min(x, 3)})})
			if k.object != api.ObjectFds {
				all = append(all, samples.State(list{x}, nil, list{255 - x}, list{x}))
			}
			if fault := k.layer().Calls(all, samples.Ops(x)); fault != "" {
				t.Errorf("P6.1: object %d: %s", k.object, fault)
			}
		}
	}
}

// mayRow is a row, and of which objects it may be.
type mayRow struct {
	row               list
	store, fds, queue bool
}

// mayRows: empty ones, full ones, and numbers at the edges and just outside.
func mayRows() []mayRow {
	return []mayRow{
		{nil, true, true, true},
		{list{}, true, true, true},
		{list{0}, true, true, true},
		{list{3}, true, true, true},
		{list{4}, true, false, true},
		{list{255}, true, false, true},
		{list{-1}, false, false, false},
		{list{256}, false, false, false},
		{list{math.MinInt}, false, false, false},
		{list{math.MaxInt}, false, false, false},
		{list{0, 3}, false, true, true},
		{list{3, 0}, false, false, true},
		{list{2, 2}, false, false, true},
		{list{3, 4}, false, false, true},
		{list{3, 255}, false, false, true},
		{list{3, 256}, false, false, false},
		{list{-1, 3}, false, false, false},
		{list{0, 1, 2, 3}, false, true, true},
		{list{1, 2, 3, 4}, false, false, true},
		{list{3, 2, 1, 0}, false, false, true},
		{list{255, 255, 255, 255}, false, false, true},
		{list{255, 255, 255, 256}, false, false, false},
		{list{0, 1, 2, 3, 4}, false, false, false},
		{list{0, 1, 2, 3, 3}, false, false, false},
		{list{9, 9, 9, 9, 9}, false, false, false},
		{make([]int, 1<<16), false, false, false},
	}
}

func TestMayOfRows(t *testing.T) {
	for _, x := range mayRows() {
		for row := range 4 {
			var s api.State
			s.Rows[row] = x.row
			for object, want := range []bool{x.store, x.fds, x.queue} {
				if May(object, s) != want {
					t.Errorf("P6.1: object %d, %.9v at row %d: want %v", object, x.row, row, want)
				}
			}
		}
	}
}

func TestMayLooksAtEveryRow(t *testing.T) {
	all := mayRows()
	for i, x := range all {
		for j, y := range all {
			s := samples.State(nil, x.row, list{1}, y.row)
			for object, want := range []bool{x.store && y.store, x.fds && y.fds, x.queue && y.queue} {
				if May(object, s) != want {
					t.Errorf("P6.1: object %d, rows %d and %d: want %v", object, i, j, want)
				}
			}
		}
	}
}

func TestMayOfOneAndNotAnother(t *testing.T) {
	for _, x := range []struct {
		s    api.State
		want [3]bool
	}{
		{api.State{}, [3]bool{true, true, true}},
		{samples.State(list{0}, list{1}, list{2}, list{3}), [3]bool{true, true, true}},
		{samples.State(list{9}, list{9}, list{9}, list{9}), [3]bool{true, false, true}},
		{samples.State(list{0, 1}, nil, nil, list{2, 3}), [3]bool{false, true, true}},
		{samples.State(list{9}, nil, nil, list{2, 3}), [3]bool{false, false, true}},
		{samples.State(list{9}, nil, list{-1}, list{2, 3}), [3]bool{false, false, false}},
	} {
		for object, want := range x.want {
			_, _, e := Apply(object, x.s, api.Op{Code: api.CodeFirst})
			if May(object, x.s) != want || (e == api.OK) != want || !want && e != api.ErrObjectForm {
				t.Errorf("P6.1: object %d, %v: error %d; want %v", object, x.s, e, want)
			}
		}
	}
}

func TestNumbersThatAreNoObject(t *testing.T) {
	all := []api.State{{}, samples.State(list{0}, list{1}, list{2}, list{3}), samples.State(list{9}), samples.State(list{3, 0}), samples.State(list{-1}), samples.State(nil, make([]int, 99))}
	ops := slices.Concat(samples.Ops(0, 255), samples.WrongOps())
	for _, object := range samples.NoObjects() {
		l := samples.Layer{Apply: of(object), Err: api.ErrObjectForm}
		for _, s := range all {
			if May(object, s) {
				t.Errorf("P6.1: %d, %v may be", object, s)
			}
			for _, o := range ops {
				if fault := l.Refusal(s, o); fault != "" {
					t.Errorf("P6.1: %d: %s", object, fault)
				}
			}
		}
	}
}

func TestStatesThatMayNotBe(t *testing.T) {
	for _, k := range kinds() {
		if fault := k.layer().WrongStates(k.fair, k.wrong); fault != "" {
			t.Errorf("P6.1: object %d: %s", k.object, fault)
		}
	}
}

func TestOperationsThatMayNotBe(t *testing.T) {
	for _, k := range kinds() {
		if fault := k.layer().WrongOps(k.fair); fault != "" {
			t.Errorf("P6.1: object %d: %s", k.object, fault)
		}
	}
}

func TestNothingIsChangedKeptOrShared(t *testing.T) {
	alike := []api.State{samples.State(list{}, list{}, list{}, list{}), samples.State(list{1}, list{1}, list{1}, list{1}), samples.State(list{0}, nil, list{0}, nil)}
	full := []api.State{samples.State(list{0, 1, 2, 3}, list{0, 1, 2, 3}, nil, list{0, 1, 2, 3})}
	for _, k := range kinds() {
		all := slices.Concat(k.fair, alike, full)
		if fault := k.layer().Sharing(all, samples.Ops(0, 3, 255)); fault != "" {
			t.Errorf("R4: object %d: %s", k.object, fault)
		}
	}
}

// asked: May's answer as if it were a call's, so that what is looked at of calls is looked at of it.
func asked(object int) samples.Apply {
	return func(s api.State, o api.Op) (api.State, int, api.Errno) {
		if May(object, s) {
			return api.State{}, 1, api.OK
		}
		return api.State{}, 0, api.OK
	}
}

func TestMayChangesNothing(t *testing.T) {
	for object := -1; object <= 3; object++ {
		for _, s := range manyStates() {
			if fault := samples.Sharing(asked(object), s, api.Op{}); fault != "" {
				t.Fatalf("R4: object %d, %v: %s", object, s, fault)
			}
		}
	}
}

func TestOneBehindTheOther(t *testing.T) {
	for _, k := range kinds() {
		if fault := k.layer().Behind(samples.Ops(0, 1, 3, 255), 2000); fault != "" {
			t.Errorf("P6.1: object %d: %s", k.object, fault)
		}
	}
}

func TestAnswersHangOnNothingElse(t *testing.T) {
	for _, k := range kinds() {
		for _, s := range k.fair {
			if fault := k.layer().Together(s, samples.Ops(0, 3)); fault != "" {
				t.Errorf("R5: object %d: %s", k.object, fault)
			}
		}
	}
}

func TestObjectsAreAskedInAnyOrder(t *testing.T) {
	// The three in turn, in several goroutines at one time: what one was asked is not to be seen in the next.
	faults := samples.Together(func() string {
		for range 200 {
			for _, k := range kinds() {
				if fault := k.layer().Calls(k.fair, samples.Ops(2)); fault != "" {
					return fault
				}
				if !May(k.object, k.fair[1]) || May(k.object, samples.State(k.wrong[0])) || May(-1, k.fair[0]) {
					return "May"
				}
			}
		}
		return ""
	})
	for _, fault := range faults {
		t.Errorf("R5: %s", fault)
	}
}
