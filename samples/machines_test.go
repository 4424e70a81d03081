package samples

import (
	"slices"
	"testing"

	"chorus/api"
)

// counted: has it as many of all as its Config says?
func counted(m api.Machine) bool {
	c := m.Config
	if len(m.Rings) != c.Logs || len(m.Replicas) != c.Replicas || len(m.Threads) != c.Threads || len(m.History) > 64 {
		return false
	}
	for _, r := range m.Rings {
		if len(r.Slots) != c.Slots {
			return false
		}
	}
	for _, r := range m.Replicas {
		if len(r.Cursors) != c.Logs || len(r.Locks) != c.Logs {
			return false
		}
	}
	for _, x := range m.Threads {
		if len(x.Batch) > c.Threads || len(x.Tails) > c.Logs || x.At > len(x.Batch) {
			return false
		}
	}
	return true
}

func TestMachinesHaveWhatTheirConfigSays(t *testing.T) {
	for _, c := range FairConfigs() {
		for i, m := range FairMachines(c) {
			if m.Config != c || !counted(m) {
				t.Errorf("machine %d of %+v: %+v", i, c, m)
			}
		}
		for turn := range 60 {
			if m := BusyMachine(c, turn); m.Config != c || !counted(m) {
				t.Errorf("turn %d of %+v: %+v", turn, c, m)
			}
		}
	}
}

func TestMachinesShareNothing(t *testing.T) {
	for _, c := range FewConfigs() {
		for i := range FairMachines(c) {
			m, old := FairMachines(c)[i], FairMachines(c)[i]
			if !ListsApart(CopiedMachine(m)) || !ListsApart(RoomyMachine(m)) {
				t.Errorf("machine %d of %+v: a copy's lists share memory", i, c)
			}
			if !SameMachine(m, old) {
				t.Errorf("machine %d of %+v: it turns with its copy", i, c)
			}
			if !ListsApart(m) {
				t.Errorf("machine %d of %+v: its lists share memory", i, c)
			}
			if !SameMachine(FairMachines(c)[i], old) {
				t.Errorf("machine %d of %+v: it is another one the next time", i, c)
			}
		}
	}
}

func TestBusyMachinesAreAtEveryStep(t *testing.T) {
	for _, c := range FewConfigs() {
		steps, batches, tails := make([]int, 20), make([]int, c.Threads+1), make([]int, c.Logs+1)
		for turn := range 20 {
			for _, x := range BusyMachine(c, turn).Threads {
				steps[x.Step]++
				batches[len(x.Batch)]++
				tails[len(x.Tails)]++
			}
		}
		if slices.Contains(slices.Concat(steps, batches, tails), 0) {
			t.Errorf("%+v: %v, %v, %v", c, steps, batches, tails)
		}
	}
}

func TestEmptiedIsTheSameWithoutNil(t *testing.T) {
	m := FreshMachine(FewConfigs()[5])
	x := emptied(m)
	if !SameMachine(m, x) {
		t.Errorf("%+v", x)
	}
	for _, list := range numberLists(x) {
		if *list == nil {
			t.Errorf("%+v: a list is nil", x)
		}
	}
	if x.History == nil || m.History != nil || m.Threads[0].Batch != nil {
		t.Errorf("%#v, %#v", x.History, m.History)
	}
}

func TestSameMachineHoldsEachThing(t *testing.T) {
	m := FullMachine(FewConfigs()[4])
	for i, turn := range []func(x *api.Machine){
		func(x *api.Machine) { x.Config.Object = 2 },
		func(x *api.Machine) { x.Rings = x.Rings[:1] },
		func(x *api.Machine) { x.Rings[1].Fence = 1 },
		func(x *api.Machine) { x.Rings[1].Slots[7].Bit = 0 },
		func(x *api.Machine) { x.Replicas = x.Replicas[:1] },
		func(x *api.Machine) { x.Replicas[1].State.Rows[3][3] = 9 },
		func(x *api.Machine) { x.Replicas[1].Cursors[1]-- },
		func(x *api.Machine) { x.Replicas[1].Locks[1]-- },
		func(x *api.Machine) { x.Threads = x.Threads[:3] },
		func(x *api.Machine) { x.Threads[3].Step-- },
		func(x *api.Machine) { x.Threads[3].Op.Arg-- },
		func(x *api.Machine) { x.Threads[3].Log-- },
		func(x *api.Machine) { x.Threads[3].Seen-- },
		func(x *api.Machine) { x.Threads[3].Batch[3]-- },
		func(x *api.Machine) { x.Threads[3].At-- },
		func(x *api.Machine) { x.Threads[3].Posted = false },
		func(x *api.Machine) { x.Threads[3].Ready = false },
		func(x *api.Machine) { x.Threads[3].Answer-- },
		func(x *api.Machine) { x.Threads[3].Tails[1]-- },
		func(x *api.Machine) { x.History = x.History[:63] },
		func(x *api.Machine) { x.History[63].Call = false },
	} {
		x := MachineWith(m, turn)
		if SameMachine(m, x) || SameMachine(x, m) {
			t.Errorf("turn %d: it is the same", i)
		}
		if !SameMachine(m, FullMachine(m.Config)) {
			t.Fatalf("turn %d: the one that was copied is turned", i)
		}
	}
}

func TestNoMachineIsZeroAlone(t *testing.T) {
	if !IsNoMachine(api.Machine{}) {
		t.Errorf("it is not")
	}
	for i, m := range []api.Machine{{Config: api.Config{Logs: 1}}, {Rings: []api.Ring{{}}}, {Replicas: []api.Replica{{}}}, {Threads: []api.Thread{{}}}, {History: []api.Event{{}}}} {
		if IsNoMachine(m) {
			t.Errorf("%d: it is", i)
		}
	}
}

// roomWriters: what writes into the room behind one of a machine's lists.
func roomWriters() []func(m api.Machine) {
	return []func(m api.Machine){
		func(m api.Machine) { _ = append(m.Rings, api.Ring{}) },
		func(m api.Machine) { _ = append(m.Rings[0].Slots, api.Slot{}) },
		func(m api.Machine) { _ = append(m.Replicas, api.Replica{Locks: []int{1}}) },
		func(m api.Machine) { _ = append(m.Replicas[0].State.Rows[2], 1) },
		func(m api.Machine) { _ = append(m.Replicas[0].Cursors, 1) },
		func(m api.Machine) { _ = append(m.Replicas[0].Locks, 1) },
		func(m api.Machine) { _ = append(m.Threads, api.Thread{}) },
		func(m api.Machine) { _ = append(m.Threads[0].Batch, 1) },
		func(m api.Machine) { _ = append(m.Threads[0].Tails, 1) },
		func(m api.Machine) { _ = append(m.History, api.Event{}) },
	}
}

func TestRoomBehindEachListIsSeen(t *testing.T) {
	for _, c := range FewConfigs() {
		for _, plain := range FairMachines(c) {
			for i, write := range roomWriters() {
				m := RoomyMachine(plain)
				whole := WholeMachine(m)
				if !SameMachine(m, plain) || !SameMachine(whole, WholeMachine(m)) {
					t.Fatalf("%+v: %+v", plain, m)
				}
				if write(m); !SameMachine(m, plain) || SameMachine(whole, WholeMachine(m)) {
					t.Errorf("writer %d of %+v: what is written behind a list is not seen", i, c)
				}
			}
		}
	}
}

func TestScribbleWritesOverEachList(t *testing.T) {
	for _, c := range FewConfigs() {
		m := RoomyMachine(FullMachine(c))
		kept := WholeMachine(m)
		shallow := m
		shallow.Rings, shallow.Replicas, shallow.Threads = slices.Clone(m.Rings), slices.Clone(m.Replicas), slices.Clone(m.Threads)
		ScribbleMachine(m)
		for _, list := range numberLists(shallow) {
			if slices.ContainsFunc((*list)[:cap(*list)], func(x int) bool { return x != -7 }) {
				t.Errorf("%+v: %v", c, *list)
			}
		}
		for i, r := range shallow.Rings {
			if r.Slots[0] != slotMarker() || m.Rings[i].Head != -7 {
				t.Errorf("%+v: %+v", c, r)
			}
		}
		if m.Replicas[0].Locks != nil || m.Threads[0].Step != -7 || m.History[63].Thread != -7 || kept.Threads[0].Step != 19 {
			t.Errorf("%+v: %+v", c, m)
		}
	}
}

func TestListsThatShareAreSeen(t *testing.T) {
	c := FewConfigs()[5]
	for i, turn := range []func(m *api.Machine){
		func(m *api.Machine) { m.Replicas[0].Locks = m.Replicas[0].Cursors },
		func(m *api.Machine) { m.Replicas[1].Cursors = m.Replicas[0].Cursors },
		func(m *api.Machine) { m.Replicas[1].State.Rows[0] = m.Replicas[0].State.Rows[3] },
		func(m *api.Machine) { m.Threads[2].Batch = m.Threads[1].Tails[:0] },
		func(m *api.Machine) { m.Rings[1].Slots = m.Rings[0].Slots },
		func(m *api.Machine) {
			both := make([]int, 4)
			m.Replicas[0].Cursors, m.Replicas[0].Locks = both[:2], both[2:]
		},
	} {
		if ListsApart(MachineWith(FullMachine(c), turn)) {
			t.Errorf("turn %d: no fault is told", i)
		}
	}
}

func TestWrongTurnsTurnSomething(t *testing.T) {
	for _, c := range FewConfigs() {
		for _, m := range FairMachines(c) {
			old := CopiedMachine(m)
			names := map[string]int{}
			for _, turn := range WrongTurns(m) {
				names[turn.Name]++
				if SameMachine(MachineWith(m, turn.Do), m) {
					t.Errorf("%s: of %+v: nothing is turned", turn.Name, m)
				}
			}
			if len(names) < 500 || !SameMachine(m, old) {
				t.Errorf("%+v: %d turns, or it is turned itself", c, len(names))
			}
		}
	}
}

func TestAllThreadsAsOne(t *testing.T) {
	for _, c := range FewConfigs() {
		m := FullMachine(c)
		x := api.Thread{Step: 4, Batch: []int{0}, Tails: []int{7}}
		got := AllAs(m, x)
		if !ListsApart(got) || !SameMachine(m, FullMachine(c)) || x.Batch[0] != 0 || x.Tails[0] != 7 {
			t.Errorf("%+v: memory is shared", c)
		}
		for i, y := range AllAs(m, x).Threads {
			if !sameThread(y, x) {
				t.Errorf("%+v: thread %d: %+v", c, i, y)
			}
		}
		for i, y := range AllAtStep(m, 3).Threads {
			if y.Step != 3 || y.At != c.Threads || m.Threads[i].Step != 19 {
				t.Errorf("%+v: thread %d: %+v", c, i, y)
			}
		}
	}
}

func TestThreadsAsEachCrossed(t *testing.T) {
	for _, c := range FewConfigs() {
		m := BusyMachine(c, 4)
		seen := map[[4]int]bool{}
		for _, x := range EachAs(m, []api.Thread{{Step: 1}, {Step: 2, Batch: []int{0}}, {Step: 3}}) {
			var steps [4]int
			for i, y := range x.Threads {
				steps[i] = y.Step
			}
			seen[steps] = true
			if len(x.Threads) != c.Threads || !slices.EqualFunc(x.Replicas, m.Replicas, sameReplica) {
				t.Errorf("%+v: %+v", c, x)
			}
		}
		if want := []int{3, 9, 27, 81}[c.Threads-1]; len(seen) != want || !SameMachine(m, BusyMachine(c, 4)) {
			t.Errorf("%+v: %d of them, want %d", c, len(seen), want)
		}
	}
}
