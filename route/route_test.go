package route

import (
	"math"
	"slices"
	"strconv"
	"testing"

	"chorus/api"
	"chorus/samples"
)

// list is a row of numbers.
type list = []int

// log is one of so many, and the rows that are its own.
type log struct {
	log, logs int
	rows      list
}

// everyLog: all of them, written out.
func everyLog() []log {
	return []log{
		{0, 1, list{0, 1, 2, 3}},
		{0, 2, list{0, 2}},
		{1, 2, list{1, 3}},
	}
}

// wrongNumbers: how many logs there may not be; some of them may be if bits were lost.
func wrongNumbers() []int {
	return []int{math.MinInt, math.MinInt + 1, -1 << 32, -256, -3, -2, -1, 0, 3, 4, 5, 255, 256, 257, 1 << 32, 1<<32 + 1, 1<<32 + 2, math.MaxInt}
}

// wrongLogs: logs that there are none of, with how many there are.
func wrongLogs() []log {
	var all []log
	for _, logs := range wrongNumbers() {
		for _, n := range []int{-1, 0, 1, 2, 3, logs, logs - 1} {
			all = append(all, log{log: n, logs: logs})
		}
	}
	for _, logs := range []int{1, 2} {
		for _, n := range []int{math.MinInt, -1 << 32, -256, -logs - 1, -logs, -1, logs, logs + 1, 4, 255, 256, 1 << 32, math.MaxInt} {
			all = append(all, log{log: n, logs: logs})
		}
	}
	return all
}

// part: Part of this log as if it were an operation's call, so that what is looked at of these is looked at of it.
func (l log) part(s api.State, _ api.Op) (api.State, int, api.Errno) {
	t, e := Part(s, l.log, l.logs)
	return t, 0, e
}

// want: the state that has this log's rows alone.
func (l log) want(s api.State, _ api.Op) (api.State, int) {
	var t api.State
	for _, row := range l.rows {
		t.Rows[row] = s.Rows[row]
	}
	return t, 0
}

// layer: Part of this log, held against its rows.
func (l log) layer() samples.Layer {
	return samples.Layer{Apply: l.part, Want: l.want, Err: api.ErrRouteForm}
}

// asked: the one call that there is of a state.
func asked() []api.Op {
	return []api.Op{{}}
}

func TestLogsWrittenOut(t *testing.T) {
	for _, x := range []struct{ row, logs, want int }{
		{0, 1, 0}, {1, 1, 0}, {2, 1, 0}, {3, 1, 0},
		{0, 2, 0}, {1, 2, 1}, {2, 2, 0}, {3, 2, 1},
	} {
		for _, o := range []api.Op{
			{Code: api.CodeFirst, Row: x.row, Arg: 9},
			{Code: api.CodeSecond, Row: x.row, Arg: 1},
			{Code: api.CodeLook, Row: x.row},
		} {
			if got, e := Log(o, x.logs); got != x.want || e != api.OK {
				t.Errorf("P7.1: %v of %d: %d, %d; want %d", o, x.logs, got, e, x.want)
			}
		}
	}
}

func TestLogOfEveryOperation(t *testing.T) {
	for arg := range 256 {
		for _, o := range samples.Ops(arg) {
			if o.Code == api.CodeScan {
				continue
			}
			for _, l := range everyLog() {
				got, e := Log(o, l.logs)
				if e != api.OK || (got == l.log) != slices.Contains(l.rows, o.Row) {
					t.Errorf("P7.1: %v of %d: %d, %d", o, l.logs, got, e)
				}
			}
		}
	}
}

func TestAnOperationGoesWhereItsRowIs(t *testing.T) {
	s := samples.State(list{1}, list{2}, list{3}, list{4})
	for _, logs := range []int{1, 2} {
		for row := range 4 {
			at, _ := Log(api.Op{Code: api.CodeLook, Row: row}, logs)
			for n := range logs {
				part, e := Part(s, n, logs)
				if e != api.OK || (len(part.Rows[row]) == 1) != (n == at) {
					t.Errorf("P7.1, P7.2: row %d goes into %d of %d; %d has %v, %d", row, at, logs, n, part, e)
				}
			}
		}
	}
}

// logRefused: "", if Log answers the error alone; else what it answers.
func logRefused(o api.Op, logs int) string {
	if got, e := Log(o, logs); got != 0 || e != api.ErrRouteForm {
		return strconv.Itoa(got) + ", " + strconv.Itoa(int(e))
	}
	return ""
}

func TestLogOfOperationsThatMayNotBe(t *testing.T) {
	for _, o := range samples.WrongOps() {
		for _, logs := range append(wrongNumbers(), 1, 2) {
			if fault := logRefused(o, logs); fault != "" {
				t.Errorf("P7.1: %v of %d: %s", o, logs, fault)
			}
		}
	}
}

func TestLogOfAScan(t *testing.T) {
	for _, logs := range append(wrongNumbers(), 1, 2) {
		if fault := logRefused(api.Op{Code: api.CodeScan}, logs); fault != "" {
			t.Errorf("P7.1: a scan of %d: %s", logs, fault)
		}
	}
}

func TestLogOfNumbersThatMayNotBe(t *testing.T) {
	for _, o := range samples.Ops(0, 255) {
		for _, logs := range wrongNumbers() {
			if fault := logRefused(o, logs); fault != "" {
				t.Errorf("P7.1: %v of %d: %s", o, logs, fault)
			}
		}
	}
}

func TestPartsWrittenOut(t *testing.T) {
	s := samples.State(list{1, 2}, list{3}, list{4, 5, 6}, list{7, 8, 9, 10})
	for _, x := range []struct {
		log, logs int
		want      api.State
	}{
		{0, 1, samples.State(list{1, 2}, list{3}, list{4, 5, 6}, list{7, 8, 9, 10})},
		{0, 2, samples.State(list{1, 2}, nil, list{4, 5, 6}, nil)},
		{1, 2, samples.State(nil, list{3}, nil, list{7, 8, 9, 10})},
	} {
		if got, e := Part(s, x.log, x.logs); !samples.Same(got, x.want) || e != api.OK {
			t.Errorf("P7.2: %d of %d: %v, %d; want %v", x.log, x.logs, got, e, x.want)
		}
	}
}

// someStates: no numbers, the same rows and unlike ones, and rows that are of no object.
func someStates() []api.State {
	long := make([]int, 1<<10)
	for i := range long {
		long[i] = i - 5
	}
	return []api.State{
		{},
		samples.State(list{}, list{}, list{}, list{}),
		samples.State(list{7}, list{7}, list{7}, list{7}),
		samples.State(list{0}, list{0, 0}, list{0, 0, 0}, list{0, 0, 0, 0}),
		samples.State(list{9, 8, 7, 6, 5, 4}, nil, list{}, list{3, 3, 3, 3, 3}),
		samples.State(list{-5, 999}, list{-1}, list{256}, list{math.MinInt, math.MaxInt}),
		samples.State(long, long[1:], long[2:], long[:7]),
	}
}

// manyStates: those, and each row of a few numbers at each place.
func manyStates() []api.State {
	all := someStates()
	for _, row := range samples.Rows(-1, 0, 300) {
		all = append(all, samples.State(row, list{1}, list{2}, list{3}), samples.State(list{1}, row), samples.State(nil, list{2}, row, list{3}), samples.State(nil, nil, list{1, 2}, row), samples.State(row, row, row, row))
	}
	return all
}

func TestPartsOfManyStates(t *testing.T) {
	for _, l := range everyLog() {
		if fault := l.layer().Calls(manyStates(), asked()); fault != "" {
			t.Errorf("P7.2: %d of %d: %s", l.log, l.logs, fault)
		}
	}
}

func TestEveryRowIsInOnePart(t *testing.T) {
	for _, s := range manyStates() {
		first, e := Part(s, 0, 2)
		second, f := Part(s, 1, 2)
		for i := range s.Rows {
			first.Rows[i] = append(first.Rows[i], second.Rows[i]...)
		}
		if !samples.Same(first, s) || e != api.OK || f != api.OK {
			t.Errorf("P7.2: the parts of %v: %v, %d, %d", s, first, e, f)
		}
	}
}

func TestAPartOfAPart(t *testing.T) {
	for _, s := range manyStates() {
		for _, l := range everyLog() {
			part, _ := Part(s, l.log, l.logs)
			if again, e := Part(part, l.log, l.logs); !samples.Same(again, part) || e != api.OK {
				t.Errorf("P7.2: %d of %d, of %v: %v, %d", l.log, l.logs, part, again, e)
			}
			if none, e := Part(part, 1-l.log, 2); l.logs == 2 && (!samples.Same(none, api.State{}) || e != api.OK) {
				t.Errorf("P7.2: what is of log %d is also of %d: %v, %d", l.log, 1-l.log, none, e)
			}
		}
	}
}

func TestPartsOfLogsThatThereAreNot(t *testing.T) {
	for _, l := range wrongLogs() {
		for _, s := range someStates() {
			if fault := l.layer().Refusal(s, api.Op{}); fault != "" {
				t.Errorf("P7.2: %d of %d: %s", l.log, l.logs, fault)
			}
		}
	}
}

func TestNothingIsChangedKeptOrShared(t *testing.T) {
	for _, l := range slices.Concat(everyLog(), wrongLogs()) {
		for i, s := range someStates() {
			if fault := samples.Sharing(l.part, s, api.Op{}); fault != "" {
				t.Errorf("R4: %d of %d, of state %d: %s", l.log, l.logs, i, fault)
			}
		}
	}
}

func TestAnswersHangOnNothingElse(t *testing.T) {
	faults := samples.Together(func() string {
		for range 100 {
			for _, l := range everyLog() {
				if fault := l.layer().Calls(someStates(), asked()); fault != "" {
					return fault
				}
				if got, e := Log(api.Op{Row: l.rows[1]}, l.logs); got != l.log || e != api.OK {
					return "Log: " + strconv.Itoa(got)
				}
			}
			fault := logRefused(api.Op{Code: api.CodeScan}, 2) + log{log: 2, logs: 2}.layer().Refusal(someStates()[2], api.Op{})
			if fault != "" {
				return fault
			}
		}
		return ""
	})
	for _, fault := range faults {
		t.Errorf("R5: %s", fault)
	}
}
