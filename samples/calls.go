package samples

import (
	"slices"
	"strconv"

	"chorus/api"
)

// MachineCall: a call under test, of a machine: the machine that it answers, and whether the thing was done.
// Each of its methods tells the first fault that it finds, and "" if there is none.
type MachineCall func(m api.Machine) (api.Machine, bool, api.Errno)

// Always: a call that does not tell whether the thing was done, as one by which it is done wherever there is no error.
func Always(call func(m api.Machine) (api.Machine, api.Errno)) MachineCall {
	return func(m api.Machine) (api.Machine, bool, api.Errno) {
		got, e := call(m)
		return got, e == api.OK, e
	}
}

// Answer: does it answer this of m, and leave m as it was, its spare room too?
func (call MachineCall) Answer(m, want api.Machine, done bool) string {
	given := RoomyMachine(m)
	old := WholeMachine(given)
	got, is, e := call(given)
	switch {
	case e != api.OK:
		return "error " + strconv.Itoa(int(e))
	case is != done:
		return "done: " + strconv.FormatBool(is)
	case !SameMachine(got, want):
		return "another machine"
	case !SameMachine(WholeMachine(given), old):
		return "R4: what was given is changed, or its spare room"
	}
	return ""
}

// Refusal: does it answer the error alone, and leave m as it was, its spare room too?
func (call MachineCall) Refusal(m api.Machine, err api.Errno) string {
	given := RoomyMachine(m)
	old := WholeMachine(given)
	got, is, e := call(given)
	switch {
	case e != err:
		return "error " + strconv.Itoa(int(e))
	case !IsNoMachine(got) || is:
		return "R2: something beside the error"
	case !SameMachine(WholeMachine(given), old):
		return "R4: what was given is changed, or its spare room"
	}
	return ""
}

// WrongMachines: are all machines refused that one thing makes unlike m, that may be? (By one of these calls each, by turns.)
func WrongMachines(m api.Machine, err api.Errno, calls ...MachineCall) string {
	for i, turn := range WrongTurns(m) {
		if fault := calls[i%len(calls)].Refusal(MachineWith(m, turn.Do), err); fault != "" {
			return "with " + turn.Name + ": " + fault
		}
	}
	return ""
}

// Sharing: does it neither keep nor answer what it is given, nor answer one piece of memory twice?
func (call MachineCall) Sharing(m api.Machine) string {
	wanted, _, _ := call(CopiedMachine(m))
	wanted = CopiedMachine(wanted)
	given := RoomyMachine(m)
	old := WholeMachine(given)
	got, _, _ := call(given)
	again, _, _ := call(given)
	ScribbleMachine(got)
	if !SameMachine(WholeMachine(given), old) {
		return "R4: memory that was given is answered"
	}
	ScribbleMachine(given)
	if !SameMachine(again, wanted) {
		return "R4: an answer turns with another one, or with what was given"
	}
	alike, _, _ := call(oneForAlikeLists(m))
	if !SameMachine(alike, wanted) {
		return "R4: what is told of a list hangs on another one"
	}
	if !ListsApart(alike) {
		return "R4: lists of one answer share memory"
	}
	return ""
}

// oneForAlikeLists: the same machine; lists of it that hold the same are one piece of memory.
func oneForAlikeLists(m api.Machine) api.Machine {
	m = CopiedMachine(m)
	lists := numberLists(m)
	for i, list := range lists {
		for _, other := range lists[:i] {
			if slices.Equal(*list, *other) {
				*list = *other
			}
		}
	}
	for i := range m.Rings {
		for _, other := range m.Rings[:i] {
			if slices.Equal(m.Rings[i].Slots, other.Slots) {
				m.Rings[i].Slots = other.Slots
			}
		}
	}
	return m
}
