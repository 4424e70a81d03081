package samples

import (
	"slices"
	"testing"

	"chorus/api"
)

// mayStep: may it be, as far as the calls here look?
func mayStep(m api.Machine) bool {
	return len(m.Threads) > 0 && m.Threads[0].Step >= 0
}

// stepOn is a call by which thread 0's step is one more, unless it is 9 or above; it refuses steps below 0.
func stepOn(m api.Machine) (api.Machine, bool, api.Errno) {
	if !mayStep(m) {
		return api.Machine{}, false, api.ErrNil
	}
	return onBy(m, 1), m.Threads[0].Step < 9, api.OK
}

// onBy: a copy of m in which thread 0's step is by more, unless it is 9 or above.
func onBy(m api.Machine, by int) api.Machine {
	return MachineWith(m, func(m *api.Machine) {
		if m.Threads[0].Step < 9 {
			m.Threads[0].Step += by
		}
	})
}

// stepped: m, that may be, with thread 0 at this step.
func stepped(step int) api.Machine {
	return MachineWith(BusyMachine(FewConfigs()[4], 7), func(m *api.Machine) { m.Threads[0].Step = step })
}

// callLooks: how the methods look at a call, by their names.
func callLooks() map[string]func(call MachineCall) string {
	return map[string]func(call MachineCall) string{
		"Answer":      func(call MachineCall) string { return call.Answer(stepped(3), stepped(4), true) },
		"Answer done": func(call MachineCall) string { return call.Answer(stepped(9), stepped(9), false) },
		"Refusal":     func(call MachineCall) string { return call.Refusal(stepped(-1), api.ErrNil) },
		"Sharing":     func(call MachineCall) string { return call.Sharing(FullMachine(FewConfigs()[4])) },
	}
}

func TestNoFaultOfAPlainCall(t *testing.T) {
	for name, look := range callLooks() {
		if fault := look(stepOn); fault != "" {
			t.Errorf("%s: %s", name, fault)
		}
	}
}

// brokenStep is a call that is not as it should be, and the method that must tell so.
type brokenStep struct {
	name string
	tell string
	call MachineCall
}

// brokenSteps: calls that answer what they should not.
func brokenSteps() []brokenStep {
	return []brokenStep{
		{"another machine", "Answer", func(m api.Machine) (api.Machine, bool, api.Errno) {
			return onBy(m, 2), m.Threads[0].Step < 9, api.OK
		}},
		{"always done", "Answer done", func(m api.Machine) (api.Machine, bool, api.Errno) {
			got, _, e := stepOn(m)
			return got, true, e
		}},
		{"an error where nothing is wrong", "Answer", func(m api.Machine) (api.Machine, bool, api.Errno) {
			return api.Machine{}, false, api.ErrNil
		}},
		{"another error", "Refusal", func(m api.Machine) (api.Machine, bool, api.Errno) {
			got, done, e := stepOn(m)
			return got, done, 2 * e
		}},
		{"no error", "Refusal", func(m api.Machine) (api.Machine, bool, api.Errno) {
			got, done, _ := stepOn(m)
			return got, done, api.OK
		}},
		{"done beside the error", "Refusal", func(m api.Machine) (api.Machine, bool, api.Errno) {
			got, done, e := stepOn(m)
			return got, done || e != api.OK, e
		}},
		{"the machine beside the error", "Refusal", func(m api.Machine) (api.Machine, bool, api.Errno) {
			_, done, e := stepOn(m)
			return onBy(m, 1), done, e
		}},
	}
}

// meddlers: calls that meddle with what they are given.
func meddlers() []brokenStep {
	shared := make([]api.Event, 64)
	return []brokenStep{
		{"what was given is changed", "Answer", func(m api.Machine) (api.Machine, bool, api.Errno) {
			got, done, e := stepOn(m)
			m.Threads[1].Answer++
			return got, done, e
		}},
		{"the room of what was given is written to", "Answer", func(m api.Machine) (api.Machine, bool, api.Errno) {
			got, done, e := stepOn(m)
			_ = append(m.Threads[1].Tails, 1)
			return got, done, e
		}},
		{"what was given is changed, and refused", "Refusal", func(m api.Machine) (api.Machine, bool, api.Errno) {
			got, done, e := stepOn(m)
			m.Replicas[0].Cursors[0]++
			return got, done, e
		}},
		{"a list that was given is answered", "Sharing", func(m api.Machine) (api.Machine, bool, api.Errno) {
			got, done, e := stepOn(m)
			got.Replicas[1].Locks = m.Replicas[1].Locks
			return got, done, e
		}},
		{"the same list is answered again", "Sharing", func(m api.Machine) (api.Machine, bool, api.Errno) {
			got, done, e := stepOn(m)
			copy(shared, got.History)
			got.History = shared
			return got, done, e
		}},
		{"lists that are one stay one", "Sharing", func(m api.Machine) (api.Machine, bool, api.Errno) {
			got, done, e := stepOn(m)
			if &m.Replicas[0].Locks[0] == &m.Replicas[1].Locks[0] {
				got.Replicas[0].Locks = got.Replicas[1].Locks
			}
			return got, done, e
		}},
	}
}

func TestFaultsOfBrokenCallsOfMachinesAreTold(t *testing.T) {
	for _, b := range append(brokenSteps(), meddlers()...) {
		if callLooks()[b.tell](b.call) == "" {
			t.Errorf("%s: %s tells no fault", b.name, b.tell)
		}
	}
}

func TestAlwaysIsDoneWhereThereIsNoError(t *testing.T) {
	call := Always(func(m api.Machine) (api.Machine, api.Errno) {
		got, _, e := stepOn(m)
		return got, e
	})
	for _, fault := range []string{
		call.Answer(stepped(3), stepped(4), true), call.Answer(stepped(9), stepped(9), true),
		call.Refusal(stepped(-1), api.ErrNil), call.Sharing(stepped(3)),
	} {
		if fault != "" {
			t.Error(fault)
		}
	}
}

func TestWrongMachinesAreAllAskedOf(t *testing.T) {
	m := BusyMachine(FewConfigs()[2], 5)
	asked := map[int]int{}
	refuses := func(number int) MachineCall {
		return func(m api.Machine) (api.Machine, bool, api.Errno) {
			asked[number]++
			return api.Machine{}, false, api.ErrNil
		}
	}
	if fault := WrongMachines(m, api.ErrNil, refuses(0), refuses(1), refuses(2)); fault != "" {
		t.Error(fault)
	}
	if all := len(WrongTurns(m)); asked[0]+asked[1]+asked[2] != all || asked[0]-asked[2] > 1 {
		t.Errorf("%v, of %d", asked, all)
	}
	// Only wrong steps of thread 0 are refused by it.
	if WrongMachines(m, api.ErrNil, stepOn) == "" || WrongMachines(m, api.ErrOperForm, refuses(0)) == "" {
		t.Errorf("no fault is told")
	}
}

func TestOneForAlikeListsIsTheSameMachine(t *testing.T) {
	m := FullMachine(FewConfigs()[4])
	x := oneForAlikeLists(m)
	if !SameMachine(m, x) {
		t.Errorf("%+v", x)
	}
	if &x.Replicas[0].Cursors[0] != &x.Threads[3].Tails[0] || &x.Replicas[0].Locks[0] != &x.Replicas[1].Locks[0] {
		t.Errorf("lists that are alike are not one")
	}
	if &x.Rings[0].Slots[0] != &x.Rings[1].Slots[0] || slices.Equal(x.Replicas[0].Locks, x.Replicas[0].Cursors) {
		t.Errorf("rings that are alike are not one, or others are")
	}
	if !ListsApart(m) {
		t.Errorf("the machine itself is turned")
	}
}
