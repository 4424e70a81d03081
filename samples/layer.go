package samples

import (
	"strconv"
	"strings"

	"chorus/api"
)

// Layer: a layer's call that is under test, what it must answer where nothing is wrong, and the error with which it refuses.
// Each of its methods tells the first fault that it finds, and "" if there is none.
type Layer struct {
	Apply Apply
	Want  func(s api.State, o api.Op) (api.State, int)
	Err   api.Errno
}

// Call: does it answer what it must, and leave the state as it was?
func (l Layer) Call(s api.State, o api.Op) string {
	old := apart(s)
	wanted, number := l.Want(apart(s), o)
	got, answer, e := l.Apply(s, o)
	switch {
	case e != api.OK:
		return tell(old, o) + ": error " + strconv.Itoa(int(e))
	case !Same(got, wanted) || answer != number:
		return tell(old, o) + ": " + stateText(got) + ", " + strconv.Itoa(answer) + "; want " + stateText(wanted) + ", " + strconv.Itoa(number)
	case !Same(s, old):
		return tell(old, o) + ": the state that was given is changed"
	}
	return ""
}

// Calls: each of these operations of each of these states.
func (l Layer) Calls(all []api.State, ops []api.Op) string {
	return eachOf(all, ops, l.Call)
}

// Refusal: does it answer the error alone, and leave the state as it was?
func (l Layer) Refusal(s api.State, o api.Op) string {
	if fault := Refusal(l.Apply, s, o, l.Err); fault != "" {
		return tell(s, o) + ": " + fault
	}
	return ""
}

// WrongStates: is each operation refused of states in which one of the wrong rows stands at any place, beside these rows that may be?
func (l Layer) WrongStates(fair []api.State, wrong [][]int) string {
	// Also an operation that does not touch the wrong row is refused.
	ops := append(Ops(0, api.MaxArg), WrongOps()...)
	for _, row := range wrong {
		for at := range api.Rows {
			for _, s := range fair {
				s.Rows[at] = row
				if fault := eachOf([]api.State{s}, ops, l.Refusal); fault != "" {
					return fault
				}
			}
		}
	}
	return ""
}

// WrongOps: is each operation that may not be refused of these states?
func (l Layer) WrongOps(fair []api.State) string {
	return eachOf(fair, WrongOps(), l.Refusal)
}

// Sharing: does no call of these states change, keep or answer what it is given? (These operations, and those that may not be.)
func (l Layer) Sharing(all []api.State, ops []api.Op) string {
	return eachOf(all, append(ops[:len(ops):len(ops)], WrongOps()...), func(s api.State, o api.Op) string {
		if fault := Sharing(l.Apply, s, o); fault != "" {
			return tell(s, o) + ": " + fault
		}
		return ""
	})
}

// Behind: that many calls, one behind the other, from no numbers on.
func (l Layer) Behind(ops []api.Op, times int) string {
	var s api.State
	for n := range times {
		// The steps are such that each operation comes behind each other one.
		o := ops[(n*7+n/len(ops))%len(ops)]
		if fault := l.Call(s, o); fault != "" {
			return "call " + strconv.Itoa(n) + ": " + fault
		}
		s, _, _ = l.Apply(s, o)
	}
	return ""
}

// Together: do the same calls of one state answer the same again and again, in several goroutines at one time?
func (l Layer) Together(s api.State, ops []api.Op) string {
	for _, fault := range Together(func() string { return l.again(s, ops, 200) }) {
		return fault
	}
	return ""
}

// again: the same calls that many times, one that is refused among them.
func (l Layer) again(s api.State, ops []api.Op, times int) string {
	for range times {
		if fault := l.Calls([]api.State{s}, ops); fault != "" {
			return fault
		}
		if fault := l.Refusal(s, api.Op{Code: -1}); fault != "" {
			return fault
		}
	}
	return ""
}

// eachOf: the first fault that look tells of one of the operations of one of the states.
func eachOf(all []api.State, ops []api.Op, look func(s api.State, o api.Op) string) string {
	for _, s := range all {
		for _, o := range ops {
			if fault := look(s, o); fault != "" {
				return fault
			}
		}
	}
	return ""
}

// tell: the state and the operation, as text.
func tell(s api.State, o api.Op) string {
	return stateText(s) + ", " + listText([]int{o.Code, o.Row, o.Arg})
}

// stateText: the rows, as text.
func stateText(s api.State) string {
	var texts []string
	for _, row := range s.Rows {
		texts = append(texts, listText(row))
	}
	return strings.Join(texts, "")
}

// most: how many numbers of a list are told at most.
const most = 8

// listText: the numbers, as text.
func listText(xs []int) string {
	var texts []string
	for _, x := range xs[:min(most, len(xs))] {
		texts = append(texts, strconv.Itoa(x))
	}
	if len(xs) > most {
		texts = append(texts, "..")
	}
	return "[" + strings.Join(texts, " ") + "]"
}
