// Package samples: what the tests of layers share. No layer calls it.
package samples

import (
	"math"
	"slices"
	"sync"

	"chorus/api"
)

// Apply: a layer's call that is under test.
type Apply func(s api.State, o api.Op) (api.State, int, api.Errno)

// Ops: every operation that may be, with these arguments where its code has one.
func Ops(args ...int) []api.Op {
	ops := []api.Op{{Code: 3}}
	for row := range 4 {
		ops = append(ops, api.Op{Code: 2, Row: row})
		for _, arg := range args {
			ops = append(ops, api.Op{Code: 0, Row: row, Arg: arg}, api.Op{Code: 1, Row: row, Arg: arg})
		}
	}
	return ops
}

// WrongOps: operations that may not be.
func WrongOps() []api.Op {
	ops := []api.Op{{Code: 2, Arg: 1}, {Code: 2, Row: 3, Arg: 255}, {Code: 3, Arg: 1}, {Code: 3, Row: 1}, {Code: 3, Row: 3}, {Code: 3, Row: 1, Arg: 1}}
	for _, code := range []int{math.MinInt, -256, -1, 4, 5, 256, 257, math.MaxInt} {
		ops = append(ops, api.Op{Code: code}, api.Op{Code: code, Row: 2, Arg: 9})
	}
	for code := range 4 {
		for _, row := range []int{math.MinInt, -4, -1, 4, 5, 256, math.MaxInt} {
			ops = append(ops, api.Op{Code: code, Row: row})
		}
		for _, arg := range []int{math.MinInt, -255, -1, 256, 300, math.MaxInt} {
			ops = append(ops, api.Op{Code: code, Arg: arg})
		}
	}
	return ops
}

// State: these rows, from the first one on.
func State(rows ...[]int) api.State {
	var s api.State
	copy(s.Rows[:], rows)
	return s
}

// Rows: every row of at most four numbers out of these.
func Rows(numbers ...int) [][]int {
	all := [][]int{nil}
	for from := 0; from < len(all) && len(all[from]) < 4; from++ {
		for _, x := range numbers {
			all = append(all, slices.Concat(all[from], []int{x}))
		}
	}
	return all
}

// Same: are the states' numbers the same ones? (An empty row and nil are one.)
func Same(s, t api.State) bool {
	for i := range s.Rows {
		if !slices.Equal(s.Rows[i], t.Rows[i]) {
			return false
		}
	}
	return true
}

// IsZero: is it the state's zero value, nil rows and all?
func IsZero(s api.State) bool {
	for _, row := range s.Rows {
		if row != nil {
			return false
		}
	}
	return true
}

// Refusal: "", if apply answers the error alone, and leaves the state as it was; else what it does.
func Refusal(apply Apply, s api.State, o api.Op, err api.Errno) string {
	old := apart(s)
	got, answer, e := apply(s, o)
	switch {
	case e != err:
		return "not that error"
	case !IsZero(got) || answer != 0:
		return "something beside the error"
	case !Same(s, old):
		return "the state that was given is changed"
	}
	return ""
}

// Sharing: "", if apply neither changes nor keeps nor answers what it is given, nor answers one piece of memory twice; else what it does.
func Sharing(apply Apply, s api.State, o api.Op) string {
	wanted, _, _ := apply(apart(s), o)
	wanted = apart(wanted)
	given, room := roomy(s)
	old := slices.Clone(room)
	got, _, _ := apply(given, o)
	if !slices.Equal(room, old) {
		return "what is given is changed, or its spare room"
	}
	again, _, _ := apply(given, o)
	scribble(got)
	if !slices.Equal(room, old) {
		return "memory that was given is answered"
	}
	scribble(given)
	if !Same(again, wanted) {
		return "an answer turns with another one, or with what was given"
	}
	twice, _, _ := apply(oneForAlike(s), o)
	if !rowsApart(twice) {
		return "rows of one answer share memory"
	}
	return ""
}

// Together: call's faults, called in several goroutines at one time.
func Together(call func() string) []string {
	told := make([]string, 8)
	var wait sync.WaitGroup
	for i := range told {
		wait.Go(func() { told[i] = call() })
	}
	wait.Wait()
	return slices.DeleteFunc(told, func(fault string) bool { return fault == "" })
}

// apart: the same numbers, in rows that no call under test has made.
func apart(s api.State) api.State {
	var t api.State
	for i, row := range s.Rows {
		for _, x := range row {
			t.Rows[i] = append(t.Rows[i], x)
		}
	}
	return t
}

// spare is what stands in the room behind the rows that a test hands in.
const spare = 99

// roomy: the rows as pieces of one list, with room behind each that is another row's or nobody's; that list.
func roomy(s api.State) (api.State, []int) {
	width := 1
	for _, row := range s.Rows {
		width = max(width, len(row)+1)
	}
	room := slices.Repeat([]int{spare}, width*len(s.Rows))
	var t api.State
	for i, row := range s.Rows {
		t.Rows[i] = append(room[i*width:i*width], row...)
	}
	return t, room
}

// oneForAlike: rows that have the same numbers are one piece of memory.
func oneForAlike(s api.State) api.State {
	t := apart(s)
	for i := range t.Rows {
		for j := range i {
			if slices.Equal(t.Rows[i], t.Rows[j]) {
				t.Rows[i] = t.Rows[j]
			}
		}
	}
	return t
}

// scribble writes over a state's rows and over all the room behind them.
func scribble(s api.State) {
	for _, row := range s.Rows {
		fill(row, -7)
	}
}

// fill writes x all over a list and the room behind it.
func fill[T any](list []T, x T) {
	list = list[:cap(list)]
	for i := range list {
		list[i] = x
	}
}

// rowsApart: is no memory in two of the rows, the room behind them too?
func rowsApart(s api.State) bool {
	for i, row := range s.Rows {
		fill(row, i)
	}
	for i, row := range s.Rows {
		for _, x := range row[:cap(row)] {
			if x != i {
				return false
			}
		}
	}
	return true
}
