package lock

import (
	"slices"
	"strconv"
	"testing"

	"chorus/api"
	"chorus/samples"
)

// place: which lock is meant, and which thread tries it.
type place struct {
	replica, log, thread int
}

// try: Try at this place, as a call under test.
func (p place) try() samples.MachineCall {
	return func(m api.Machine) (api.Machine, bool, api.Errno) { return Try(m, p.replica, p.log, p.thread) }
}

// free: Free at this place, as a call under test.
func (p place) free() samples.MachineCall {
	return samples.Always(func(m api.Machine) (api.Machine, api.Errno) { return Free(m, p.replica, p.log) })
}

// held: m, but that this place's lock is holder's.
func (p place) held(m api.Machine, holder int) api.Machine {
	return samples.MachineWith(m, func(m *api.Machine) { m.Replicas[p.replica].Locks[p.log] = holder })
}

// text: the place, as text.
func (p place) text() string {
	return strconv.Itoa(p.replica) + ", " + strconv.Itoa(p.log) + ", " + strconv.Itoa(p.thread)
}

// cross: every place of these replicas, logs and threads.
func cross(replicas, logs, threads []int) []place {
	var all []place
	for _, replica := range replicas {
		for _, log := range logs {
			for _, thread := range threads {
				all = append(all, place{replica, log, thread})
			}
		}
	}
	return all
}

// places: every place that a machine of c has.
func places(c api.Config) []place {
	return cross(samples.Below(c.Replicas), samples.Below(c.Logs), samples.Below(c.Threads))
}

// calls: each of the two calls at each place that a machine of c has.
func calls(c api.Config) []samples.MachineCall {
	var all []samples.MachineCall
	for _, p := range places(c) {
		all = append(all, p.try(), p.free())
	}
	return all
}

// noPlaces: places that no machine of c has: one thing is outside, or several are.
func noPlaces(c api.Config) []place {
	fair := places(c)
	return slices.DeleteFunc(cross(samples.Around(c.Replicas), samples.Around(c.Logs), samples.Around(c.Threads)), func(p place) bool { return slices.Contains(fair, p) })
}

// tell reports a fault, if there is one, of this call at this place of m.
func tell(t *testing.T, call string, p place, m api.Machine, fault string) {
	t.Helper()
	if fault != "" {
		t.Errorf("P15.1: %s at %s: %s: of %+v", call, p.text(), fault, m)
	}
}

// some: machines of c, new ones and ones in the midst of things.
func some(c api.Config) []api.Machine {
	return []api.Machine{samples.FreshMachine(c), samples.FullMachine(c), samples.BusyMachine(c, 3), samples.BusyMachine(c, 10)}
}

// locks: m's locks, replica by replica.
func locks(m api.Machine) [][]int {
	var all [][]int
	for _, r := range m.Replicas {
		all = append(all, r.Locks)
	}
	return all
}

func TestWrittenOut(t *testing.T) {
	m := samples.FreshMachine(api.Config{Object: api.ObjectQueue, Replicas: 2, Logs: 2, Threads: 3, Slots: 8})
	for i, x := range []struct {
		p    place
		free bool
		done bool
		want [][]int
	}{
		{place{1, 0, 2}, false, true, [][]int{{0, 0}, {3, 0}}},
		{place{1, 0, 0}, false, false, [][]int{{0, 0}, {3, 0}}},
		{place{1, 0, 2}, false, false, [][]int{{0, 0}, {3, 0}}},
		{place{0, 0, 0}, false, true, [][]int{{1, 0}, {3, 0}}},
		{place{1, 1, 2}, false, true, [][]int{{1, 0}, {3, 3}}},
		{place{0, 1, 1}, false, true, [][]int{{1, 2}, {3, 3}}},
		{place{1, 0, 0}, true, true, [][]int{{1, 2}, {0, 3}}},
		{place{1, 0, 0}, true, true, [][]int{{1, 2}, {0, 3}}},
		{place{1, 0, 0}, false, true, [][]int{{1, 2}, {1, 3}}},
		{place{0, 0, 0}, true, true, [][]int{{0, 2}, {1, 3}}},
		{place{0, 1, 0}, true, true, [][]int{{0, 0}, {1, 3}}},
	} {
		call := x.p.try()
		if x.free {
			call = x.p.free()
		}
		got, done, e := call(m)
		if e != api.OK || done != x.done || !slices.EqualFunc(locks(got), x.want, slices.Equal[[]int]) {
			t.Fatalf("P15.1: call %d, at %s: %v, %t, %d; want %v", i, x.p.text(), locks(got), done, e, x.want)
		}
		m = got
	}
}

func TestALockThatNobodyHoldsIsTaken(t *testing.T) {
	for _, c := range samples.FairConfigs() {
		for _, m := range some(c) {
			for _, p := range places(c) {
				nobodys := p.held(m, 0)
				tell(t, "Try", p, nobodys, p.try().Answer(nobodys, p.held(m, p.thread+1), true))
			}
		}
	}
}

func TestALockThatIsHeldIsNotTaken(t *testing.T) {
	for _, c := range samples.FairConfigs() {
		for _, m := range some(c) {
			for _, p := range places(c) {
				// The thread that tries is one of the holders.
				for holder := 1; holder <= c.Threads; holder++ {
					held := p.held(m, holder)
					tell(t, "Try", p, held, p.try().Answer(held, held, false))
				}
			}
		}
	}
}

func TestFreeWhoeverHoldsIt(t *testing.T) {
	for _, c := range samples.FairConfigs() {
		for _, m := range some(c) {
			for _, p := range cross(samples.Below(c.Replicas), samples.Below(c.Logs), []int{0}) {
				for holder := 0; holder <= c.Threads; holder++ {
					held := p.held(m, holder)
					tell(t, "Free", p, held, p.free().Answer(held, p.held(m, 0), true))
				}
			}
		}
	}
}

func TestEachMachineThatMayBe(t *testing.T) {
	for _, c := range samples.FewConfigs() {
		for _, m := range samples.FairMachines(c) {
			for _, p := range places(c) {
				nobodys := m.Replicas[p.replica].Locks[p.log] == 0
				want := m
				if nobodys {
					want = p.held(m, p.thread+1)
				}
				tell(t, "Try", p, m, p.try().Answer(m, want, nobodys))
				tell(t, "Free", p, m, p.free().Answer(m, p.held(m, 0), true))
			}
		}
	}
}

func TestRowsOfCalls(t *testing.T) {
	for _, c := range samples.FewConfigs() {
		m := samples.BusyMachine(c, 6)
		want := samples.CopiedMachine(m)
		for turn := range 200 {
			all := places(c)
			p := all[turn*7%len(all)]
			lock := &want.Replicas[p.replica].Locks[p.log]
			taken := *lock == 0
			if taken {
				*lock = p.thread + 1
			}
			tell(t, "Try", p, m, p.try().Answer(m, want, taken))
			m, _, _ = Try(m, p.replica, p.log, p.thread)
			p = all[turn*turn%len(all)]
			want.Replicas[p.replica].Locks[p.log] = 0
			tell(t, "Free", p, m, p.free().Answer(m, want, true))
			m, _ = Free(m, p.replica, p.log)
		}
	}
}

// refused reports each place at which one of the calls that are asked does not refuse m.
func refused(t *testing.T, m api.Machine, all []place) {
	t.Helper()
	c := m.Config
	for _, p := range all {
		tell(t, "Try", p, m, p.try().Refusal(m, api.ErrLockForm))
		// Free is told of no thread.
		if !slices.Contains(samples.Below(c.Replicas), p.replica) || !slices.Contains(samples.Below(c.Logs), p.log) {
			tell(t, "Free", p, m, p.free().Refusal(m, api.ErrLockForm))
		}
	}
}

func TestNoSuchReplicaLogOrThread(t *testing.T) {
	for _, c := range samples.FairConfigs() {
		refused(t, samples.FreshMachine(c), noPlaces(c))
		refused(t, samples.FullMachine(c), noPlaces(c))
	}
}

func TestNumbersFarOutside(t *testing.T) {
	for _, c := range samples.FewConfigs() {
		all := slices.Concat(
			cross(samples.Outside(0, c.Replicas-1), samples.Below(c.Logs), samples.Below(c.Threads)),
			cross(samples.Below(c.Replicas), samples.Outside(0, c.Logs-1), samples.Below(c.Threads)),
			cross(samples.Below(c.Replicas), samples.Below(c.Logs), samples.Outside(0, c.Threads-1)),
		)
		refused(t, samples.FreshMachine(c), all)
		refused(t, samples.BusyMachine(c, 9), all)
	}
}

func TestMachinesThatMayNotBe(t *testing.T) {
	for turn, c := range samples.FewConfigs() {
		for _, m := range []api.Machine{samples.FreshMachine(c), samples.FullMachine(c), samples.BusyMachine(c, turn+4)} {
			if fault := samples.WrongMachines(m, api.ErrLockForm, calls(c)...); fault != "" {
				t.Errorf("P15.1: %s: of %+v", fault, m)
			}
		}
	}
}

func TestWrongTurnsAtEachPlace(t *testing.T) {
	c := api.Config{Object: api.ObjectFds, Replicas: 2, Logs: 2, Threads: 2, Slots: 4}
	for _, call := range calls(c) {
		if fault := samples.WrongMachines(samples.BusyMachine(c, 2), api.ErrLockForm, call); fault != "" {
			t.Errorf("P15.1: %s", fault)
		}
	}
}

func TestNoMachineAtAll(t *testing.T) {
	all := cross(samples.Around(2), samples.Around(2), samples.Around(4))
	for _, p := range all {
		for _, m := range []api.Machine{{}, {Config: samples.FewConfigs()[5]}} {
			tell(t, "Try", p, m, p.try().Refusal(m, api.ErrLockForm))
			tell(t, "Free", p, m, p.free().Refusal(m, api.ErrLockForm))
		}
	}
}

func TestAMachineThatMayNotBeAtNoPlace(t *testing.T) {
	for _, c := range samples.FewConfigs() {
		m := samples.MachineWith(samples.FullMachine(c), func(m *api.Machine) { m.History = append(m.History, api.Event{}) })
		refused(t, m, noPlaces(c))
	}
}

func TestMemoryOfItsOwn(t *testing.T) {
	for _, c := range samples.FewConfigs() {
		for _, m := range samples.FairMachines(c) {
			for _, p := range places(c) {
				for _, holder := range []int{0, c.Threads} {
					held := p.held(m, holder)
					tell(t, "Try", p, held, p.try().Sharing(held))
					tell(t, "Free", p, held, p.free().Sharing(held))
				}
			}
		}
	}
}

func TestAnswersHangOnNothingElse(t *testing.T) {
	c := api.Config{Object: api.ObjectQueue, Replicas: 2, Logs: 2, Threads: 4, Slots: 16}
	p := place{1, 0, 3}
	nobodys, held := p.held(samples.BusyMachine(c, 8), 0), p.held(samples.BusyMachine(c, 8), 4)
	old := samples.CopiedMachine(nobodys)
	faults := samples.Together(func() string {
		for range 100 {
			for _, fault := range []string{
				p.try().Answer(nobodys, held, true), p.try().Answer(held, held, false),
				p.free().Answer(held, nobodys, true), p.free().Answer(nobodys, nobodys, true),
				place{2, 0, 0}.try().Refusal(held, api.ErrLockForm), place{0, 2, 0}.free().Refusal(held, api.ErrLockForm),
			} {
				if fault != "" {
					return fault
				}
			}
			// The machines themselves, with no copy between, are handed in by all.
			if m, is, e := Try(nobodys, p.replica, p.log, p.thread); !is || e != api.OK || !samples.SameMachine(m, held) {
				return "Try"
			}
			if m, e := Free(held, p.replica, p.log); e != api.OK || !samples.SameMachine(m, nobodys) {
				return "Free"
			}
		}
		return ""
	})
	for _, fault := range faults {
		t.Errorf("R5: %s", fault)
	}
	if !samples.SameMachine(nobodys, old) {
		t.Errorf("R4: what was given is changed: %+v", nobodys)
	}
}
