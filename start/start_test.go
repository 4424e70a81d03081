package start

import (
	"math"
	"slices"
	"strconv"
	"testing"

	"chorus/api"
	"chorus/samples"
)

// mayFault: "", if May answers this, and leaves m as it was, its spare room too; else what it does.
func mayFault(m api.Machine, want bool) string {
	given := samples.RoomyMachine(m)
	old := samples.WholeMachine(given)
	if got := May(given); got != want {
		return "P14.1: May: " + strconv.FormatBool(got)
	}
	if !samples.SameMachine(samples.WholeMachine(given), old) {
		return "R4: May: what was given is changed, or its spare room"
	}
	return ""
}

// newFault: "", if New answers a machine of c in which nothing was called, that may be; else what it does.
func newFault(c api.Config) string {
	m, e := New(c)
	switch {
	case e != api.OK:
		return "P14.1: New: error " + strconv.Itoa(int(e))
	case !samples.SameMachine(m, samples.FreshMachine(c)):
		return "P14.1: New: another machine"
	case !May(m):
		return "P14.1: New: a machine that may not be"
	}
	return ""
}

// newRefusal: "", if New answers ErrStartForm alone; else what it does.
func newRefusal(c api.Config) string {
	m, e := New(c)
	if e != api.ErrStartForm {
		return "P14.1: New: error " + strconv.Itoa(int(e))
	}
	if !samples.IsNoMachine(m) {
		return "R2: New: something beside the error"
	}
	return ""
}

// tell reports a fault, if there is one.
func tell(t *testing.T, of any, fault string) {
	t.Helper()
	if fault != "" {
		t.Errorf("%s: of %+v", fault, of)
	}
}

// tellTurned reports a fault of May, if there is one, of m but for what turn does to it.
func tellTurned(t *testing.T, m api.Machine, name string, want bool, turn func(m *api.Machine)) {
	t.Helper()
	if fault := mayFault(samples.MachineWith(m, turn), want); fault != "" {
		t.Errorf("%s: with %s, of %+v", fault, name, m)
	}
}

func TestNewWrittenOut(t *testing.T) {
	c := api.Config{Object: api.ObjectQueue, Replicas: 2, Logs: 1, Threads: 2, Slots: 4}
	m, e := New(c)
	want := api.Machine{
		Config:   api.Config{Object: 2, Replicas: 2, Logs: 1, Threads: 2, Slots: 4},
		Rings:    []api.Ring{{Slots: []api.Slot{{}, {}, {}, {}}}},
		Replicas: []api.Replica{{Cursors: []int{0}, Locks: []int{0}}, {Cursors: []int{0}, Locks: []int{0}}},
		Threads:  []api.Thread{{}, {}},
	}
	if e != api.OK || !samples.SameMachine(m, want) {
		t.Errorf("P14.1: %+v, %d; want %+v", m, e, want)
	}
	c = api.Config{Object: api.ObjectFds, Replicas: 1, Logs: 2, Threads: 1, Slots: 2}
	m, e = New(c)
	want = api.Machine{
		Config:   api.Config{Object: 1, Replicas: 1, Logs: 2, Threads: 1, Slots: 2},
		Rings:    []api.Ring{{Slots: []api.Slot{{}, {}}}, {Slots: []api.Slot{{}, {}}}},
		Replicas: []api.Replica{{Cursors: []int{0, 0}, Locks: []int{0, 0}}},
		Threads:  []api.Thread{{}},
	}
	if e != api.OK || !samples.SameMachine(m, want) {
		t.Errorf("P14.1: %+v, %d; want %+v", m, e, want)
	}
}

func TestNewOfEveryConfigThatMayBe(t *testing.T) {
	for _, c := range samples.FairConfigs() {
		tell(t, c, newFault(c))
	}
}

func TestNewOfConfigsThatMayNotBe(t *testing.T) {
	tell(t, api.Config{}, newRefusal(api.Config{}))
	for _, c := range samples.FairConfigs() {
		for _, x := range samples.WrongConfigs(c) {
			tell(t, x, newRefusal(x))
		}
		if c.Threads > 1 {
			c.Slots = 2
			tell(t, c, newRefusal(c))
		}
		if c.Threads > 2 {
			c.Slots = 4
			tell(t, c, newRefusal(c))
		}
	}
}

func TestNewAnswersMemoryOfItsOwn(t *testing.T) {
	for _, c := range samples.FairConfigs() {
		one, _ := New(c)
		other, _ := New(c)
		samples.ScribbleMachine(one)
		if !samples.SameMachine(other, samples.FreshMachine(c)) {
			t.Errorf("R4: %+v: an answer turns with another one", c)
		}
		tell(t, c, newFault(c))
		if !samples.ListsApart(other) {
			t.Errorf("R4: %+v: two lists of one answer share memory", c)
		}
	}
}

func TestMachinesThatMayBe(t *testing.T) {
	for _, c := range samples.FairConfigs() {
		for _, m := range samples.FairMachines(c) {
			tell(t, m, mayFault(m, true))
			if !May(m) {
				t.Errorf("P14.1: without spare room: May: false: of %+v", m)
			}
		}
		for turn := range 60 {
			m := samples.BusyMachine(c, turn)
			tell(t, m, mayFault(m, true))
		}
	}
}

// allMachines looks at the machines of few Configs.
func allMachines(look func(m api.Machine)) {
	for _, c := range samples.FewConfigs() {
		for _, m := range samples.FairMachines(c) {
			look(m)
		}
	}
}

func TestStepsThatMayBe(t *testing.T) {
	allMachines(func(m api.Machine) {
		for i := range m.Threads {
			for step := range 20 {
				tellTurned(t, m, "Step "+strconv.Itoa(step), true, func(m *api.Machine) { m.Threads[i].Step = step })
			}
		}
	})
}

func TestOperationsThatMayBe(t *testing.T) {
	allMachines(func(m api.Machine) {
		for n, o := range samples.Ops(0, 1, 254, 255) {
			for i := range m.Threads {
				tellTurned(t, m, "an Op of Threads", true, func(m *api.Machine) { m.Threads[i].Op = o })
			}
			tellTurned(t, m, "an Op of History", true, func(m *api.Machine) { m.History = []api.Event{{}, {Op: o, Answer: n}} })
		}
		for _, o := range samples.Updates() {
			for i := range m.Rings {
				tellTurned(t, m, "an Op of Slots", true, func(m *api.Machine) { m.Rings[i].Slots[m.Config.Slots-1].Op = o })
			}
		}
	})
}

func TestThreadsAtTheirEdges(t *testing.T) {
	allMachines(func(m api.Machine) {
		for i := range m.Threads {
			set := func(name string, turn func(x *api.Thread)) {
				tellTurned(t, m, name, true, func(m *api.Machine) { turn(&m.Threads[i]) })
			}
			for _, seen := range []int{0, 1, 1048575, 1048576} {
				set("Seen", func(x *api.Thread) { x.Seen = seen })
			}
			for _, answer := range append(samples.Far(), -1, 0, 255, 256) {
				set("Answer", func(x *api.Thread) { x.Answer = answer })
			}
			for log := range m.Config.Logs {
				set("Log", func(x *api.Thread) { x.Log = log })
			}
			for flags := range 4 {
				set("Posted, Ready", func(x *api.Thread) { x.Posted, x.Ready = flags%2 == 1, flags/2 == 1 })
			}
		}
	})
}

func TestBatchesOfEachLength(t *testing.T) {
	allMachines(func(m api.Machine) {
		for i := range m.Threads {
			for count := range m.Config.Threads + 1 {
				for thread := range m.Config.Threads {
					// The same thread may be in a batch again: the document does not say otherwise.
					batch := slices.Repeat([]int{thread}, count)
					for at := range count + 1 {
						tellTurned(t, m, "a Batch", true, func(m *api.Machine) { m.Threads[i].Batch, m.Threads[i].At = batch, at })
					}
					tellTurned(t, m, "At above Batch", false, func(m *api.Machine) { m.Threads[i].Batch, m.Threads[i].At = batch, count+1 })
					tellTurned(t, m, "At below 0", false, func(m *api.Machine) { m.Threads[i].Batch, m.Threads[i].At = batch, -1 })
				}
			}
		}
	})
}

func TestTailsOfEachLength(t *testing.T) {
	allMachines(func(m api.Machine) {
		for i := range m.Threads {
			for count := range 4 {
				for _, x := range []int{0, 1, 1048575, 1048576} {
					tails := slices.Repeat([]int{x}, count)
					tellTurned(t, m, "Tails", count <= m.Config.Logs, func(m *api.Machine) { m.Threads[i].Tails = tails })
				}
			}
		}
	})
}

func TestHistoriesOfEachLength(t *testing.T) {
	allMachines(func(m api.Machine) {
		for count := range 70 {
			tellTurned(t, m, "History", count <= 64, func(m *api.Machine) { m.History = make([]api.Event, count) })
			tellTurned(t, m, "History", count <= 64, func(m *api.Machine) {
				m.History = slices.Repeat([]api.Event{{Thread: m.Config.Threads - 1, Call: true, Op: api.Op{Code: 3}, Answer: math.MinInt}}, count)
			})
		}
	})
}

func TestWhoMayHoldFencesAndLocks(t *testing.T) {
	allMachines(func(m api.Machine) {
		for holder := -1; holder <= 5; holder++ {
			want := holder >= 0 && holder <= m.Config.Threads
			for log := range m.Rings {
				tellTurned(t, m, "a Fence", want, func(m *api.Machine) { m.Rings[log].Fence = holder })
				for i := range m.Replicas {
					tellTurned(t, m, "a Lock", want, func(m *api.Machine) { m.Replicas[i].Locks[log] = holder })
				}
			}
		}
	})
}

func TestWhoseSlotsMayBe(t *testing.T) {
	allMachines(func(m api.Machine) {
		for thread := -1; thread <= 5; thread++ {
			want := thread >= 0 && thread < m.Config.Threads
			for log := range m.Rings {
				for i := range m.Rings[log].Slots {
					tellTurned(t, m, "a slot's Thread", want, func(m *api.Machine) { m.Rings[log].Slots[i].Thread = thread })
				}
			}
		}
	})
}

func TestBitsAndRoomOfRings(t *testing.T) {
	allMachines(func(m api.Machine) {
		n := m.Config.Slots
		for log := range m.Rings {
			for _, head := range []int{0, 1, n - 1, n, 3*n + 1, 1048576 - n} {
				for tail := head; tail <= head+n; tail++ {
					at := func(cursor int) func(m *api.Machine) {
						return func(m *api.Machine) {
							m.Rings[log].Head, m.Rings[log].Tail = head, tail
							for i := range m.Replicas {
								m.Replicas[i].Cursors[log] = cursor
							}
						}
					}
					tellTurned(t, m, "cursors at Head", true, at(head))
					tellTurned(t, m, "cursors at Tail", true, at(tail))
					tellTurned(t, m, "cursors below Head", false, at(head-1))
					tellTurned(t, m, "cursors above Tail", false, at(tail+1))
				}
			}
			for i := range n {
				tellTurned(t, m, "a bit", true, func(m *api.Machine) { m.Rings[log].Slots[i].Bit ^= 1 })
			}
		}
	})
}

func TestStatesThatMayBe(t *testing.T) {
	for _, c := range samples.FewConfigs() {
		m := samples.BusyMachine(c, 5)
		for i := range m.Replicas {
			for _, s := range samples.FairStates(c.Object) {
				tellTurned(t, m, "a State", true, func(m *api.Machine) { m.Replicas[i].State = s })
			}
		}
	}
}

func TestStatesOfAnotherObject(t *testing.T) {
	for _, x := range []struct {
		row  []int
		want []bool
	}{
		{nil, []bool{true, true, true}}, {[]int{3}, []bool{true, true, true}}, {[]int{4}, []bool{true, false, true}}, {[]int{255}, []bool{true, false, true}},
		{[]int{0, 1}, []bool{false, true, true}}, {[]int{0, 1, 2, 3}, []bool{false, true, true}}, {[]int{1, 0}, []bool{false, false, true}}, {[]int{9, 9, 9, 9}, []bool{false, false, true}},
		{[]int{0, 1, 2, 3, 4}, []bool{false, false, false}}, {[]int{256}, []bool{false, false, false}}, {[]int{-1}, []bool{false, false, false}},
	} {
		for object, want := range x.want {
			m := samples.FreshMachine(api.Config{Object: object, Replicas: 2, Logs: 2, Threads: 2, Slots: 4})
			for i := range m.Replicas {
				for row := range 4 {
					tellTurned(t, m, "a row", want, func(m *api.Machine) { m.Replicas[i].State.Rows[row] = x.row })
				}
			}
		}
	}
}

func TestEachCursorIsOfItsOwnLog(t *testing.T) {
	m := samples.FreshMachine(api.Config{Replicas: 2, Logs: 2, Threads: 2, Slots: 4})
	m.Rings[0].Head, m.Rings[0].Tail = 3, 5
	m.Rings[1].Head, m.Rings[1].Tail = 9, 13
	for _, x := range []struct {
		one, other []int
		want       bool
	}{
		{[]int{3, 9}, []int{5, 13}, true}, {[]int{5, 13}, []int{3, 9}, true}, {[]int{4, 11}, []int{4, 10}, true},
		{[]int{9, 3}, []int{5, 13}, false}, {[]int{3, 9}, []int{13, 5}, false}, {[]int{3, 5}, []int{5, 13}, false}, {[]int{9, 13}, []int{5, 13}, false},
		{[]int{2, 9}, []int{5, 13}, false}, {[]int{6, 9}, []int{5, 13}, false}, {[]int{3, 8}, []int{5, 13}, false}, {[]int{3, 14}, []int{5, 13}, false},
		{[]int{3, 9}, []int{5, 14}, false}, {[]int{3, 9}, []int{2, 13}, false}, {[]int{0, 0}, []int{0, 0}, false},
		{[]int{3, 9, 9}, []int{5, 13}, false}, {[]int{3}, []int{5, 13}, false}, {[]int{3, 9}, []int{5}, false}, {nil, nil, false}, {[]int{}, []int{}, false},
	} {
		m.Replicas[0].Cursors, m.Replicas[1].Cursors = x.one, x.other
		tell(t, m, mayFault(m, x.want))
	}
}

// wrongFaults reports each turn that makes m a machine that may not be, if May says that it may.
func wrongFaults(t *testing.T, m api.Machine) {
	t.Helper()
	for _, turn := range samples.WrongTurns(m) {
		if May(samples.MachineWith(m, turn.Do)) {
			t.Errorf("P14.1: May: true: with %s, of %+v", turn.Name, m)
		}
	}
}

func TestOneThingThatMayNotBe(t *testing.T) {
	allMachines(func(m api.Machine) { wrongFaults(t, m) })
}

func TestOneThingThatMayNotBeOfEveryConfig(t *testing.T) {
	for turn, c := range samples.FairConfigs() {
		wrongFaults(t, samples.BusyMachine(c, turn))
	}
}

func TestWhatMayNotBeIsNotChanged(t *testing.T) {
	for turn, c := range samples.FewConfigs() {
		m := samples.BusyMachine(c, turn+7)
		for _, turn := range samples.WrongTurns(m) {
			tellTurned(t, m, turn.Name, false, turn.Do)
		}
	}
}

func TestNoMachineAtAll(t *testing.T) {
	tell(t, "nothing", mayFault(api.Machine{}, false))
	for _, c := range samples.FairConfigs() {
		m := samples.FullMachine(c)
		tell(t, c, mayFault(api.Machine{Config: c}, false))
		tell(t, m, mayFault(api.Machine{Rings: m.Rings, Replicas: m.Replicas, Threads: m.Threads, History: m.History}, false))
		tell(t, m, mayFault(api.Machine{Config: c, Replicas: m.Replicas, Threads: m.Threads, History: m.History}, false))
		tell(t, m, mayFault(api.Machine{Config: c, Rings: m.Rings, Threads: m.Threads, History: m.History}, false))
		tell(t, m, mayFault(api.Machine{Config: c, Rings: m.Rings, Replicas: m.Replicas, History: m.History}, false))
		tell(t, m, mayFault(api.Machine{Config: c, Rings: m.Rings, Replicas: m.Replicas, Threads: m.Threads}, true))
	}
}

func TestLongListsAreRefused(t *testing.T) {
	for _, c := range samples.FewConfigs() {
		m := samples.FreshMachine(c)
		const many = 1 << 16
		for _, turn := range []samples.Turn{
			{Name: "Rings", Do: func(m *api.Machine) { m.Rings = slices.Repeat(m.Rings, many) }},
			{Name: "Slots", Do: func(m *api.Machine) { m.Rings[0].Slots = make([]api.Slot, many) }},
			{Name: "Replicas", Do: func(m *api.Machine) { m.Replicas = slices.Repeat(m.Replicas, many) }},
			{Name: "Cursors", Do: func(m *api.Machine) { m.Replicas[0].Cursors = make([]int, many) }},
			{Name: "Locks", Do: func(m *api.Machine) { m.Replicas[0].Locks = make([]int, many) }},
			{Name: "a row", Do: func(m *api.Machine) { m.Replicas[0].State.Rows[3] = make([]int, many) }},
			{Name: "Threads", Do: func(m *api.Machine) { m.Threads = make([]api.Thread, many) }},
			{Name: "Batch", Do: func(m *api.Machine) { m.Threads[0].Batch = make([]int, many) }},
			{Name: "Tails", Do: func(m *api.Machine) { m.Threads[0].Tails = make([]int, many) }},
			{Name: "History", Do: func(m *api.Machine) { m.History = make([]api.Event, many) }},
		} {
			if May(samples.MachineWith(m, turn.Do)) {
				t.Errorf("P14.1: long %s: May: true: of %+v", turn.Name, c)
			}
		}
	}
}

func TestAnswersHangOnNothingElse(t *testing.T) {
	c := api.Config{Object: 2, Replicas: 2, Logs: 2, Threads: 4, Slots: 16}
	fair, wrong := samples.BusyMachine(c, 8), samples.BusyMachine(c, 8)
	wrong.Replicas[1].Locks[1] = 5
	old := samples.CopiedMachine(fair)
	faults := samples.Together(func() string {
		for range 200 {
			if !May(fair) || May(wrong) {
				return "P14.1: May"
			}
			for _, fault := range []string{newFault(c), newRefusal(api.Config{}), mayFault(fair, true), mayFault(wrong, false)} {
				if fault != "" {
					return fault
				}
			}
		}
		return ""
	})
	for _, fault := range faults {
		t.Errorf("R5: %s", fault)
	}
	if !samples.SameMachine(fair, old) {
		t.Errorf("R4: what was given is changed: %+v", fair)
	}
}
