package batch

import (
	"slices"
	"testing"

	"chorus/api"
	"chorus/board"
	"chorus/samples"
)

// collecting: Collect of this thread, as a call under test.
func collecting(thread int) samples.MachineCall {
	return samples.Always(func(m api.Machine) (api.Machine, api.Errno) { return Collect(m, thread) })
}

// calls: Collect of each thread that a machine of c has.
func calls(c api.Config) []samples.MachineCall {
	var all []samples.MachineCall
	for _, thread := range samples.Below(c.Threads) {
		all = append(all, collecting(thread))
	}
	return all
}

// due: m, with each of its threads about to collect.
func due(m api.Machine) api.Machine {
	return samples.AllAtStep(m, 3)
}

// some: machines of c, new ones and ones in the midst of things, in which each thread is about to collect.
func some(c api.Config) []api.Machine {
	var all []api.Machine
	for _, m := range append(samples.FairMachines(c), samples.BusyMachine(c, 3), samples.BusyMachine(c, 10), samples.BusyMachine(c, 14)) {
		all = append(all, due(m))
	}
	return all
}

// collected: m, but that thread has these as its batch, and none of them waits any more.
func collected(m api.Machine, thread int, who []int) api.Machine {
	return samples.MachineWith(m, func(m *api.Machine) {
		for _, other := range who {
			m.Threads[other].Posted = false
		}
		x := &m.Threads[thread]
		x.Batch, x.At, x.Step = slices.Clone(who), 0, 4
		if len(who) == 0 {
			x.Step = 9
		}
	})
}

// waiters: the threads that wait at thread's replica for its log.
func waiters(m api.Machine, thread int) []int {
	return samples.WhoWaits(m, samples.Place{Replica: samples.ReplicaOf(m.Config, thread), Log: m.Threads[thread].Log})
}

// collects reports a fault, if there is one, of Collect of that thread of m, that should have these as its batch.
func collects(t *testing.T, m api.Machine, thread int, who []int) {
	t.Helper()
	if fault := collecting(thread).Answer(m, collected(m, thread, who), true); fault != "" {
		got, e := Collect(m, thread)
		t.Errorf("P17.1: of thread %d: %s: %+v, %d; want the batch %v: of %+v", thread, fault, got.Threads, e, who, m)
	}
}

// refuses reports a fault, if there is one, of Collect of that thread of m, that should be refused.
func refuses(t *testing.T, m api.Machine, thread int) {
	t.Helper()
	if fault := collecting(thread).Refusal(m, api.ErrBatchForm); fault != "" {
		t.Errorf("P17.1: of thread %d: %s: of %+v", thread, fault, m)
	}
}

// posters: m, in which these threads, and no others, wait for that log.
func posters(m api.Machine, log int, who ...int) api.Machine {
	return samples.MachineWith(m, func(m *api.Machine) {
		for i := range m.Threads {
			x := &m.Threads[i]
			x.Op, x.Log, x.Posted = api.Op{Code: i % 2, Row: i, Arg: 9}, log, slices.Contains(who, i)
		}
	})
}

func TestWrittenOut(t *testing.T) {
	m := samples.FreshMachine(api.Config{Object: api.ObjectFds, Replicas: 2, Logs: 2, Threads: 4, Slots: 8})
	for thread, x := range []api.Thread{
		{Step: 3, Op: api.Op{Code: api.CodeFirst, Row: 1}, Log: 1, Posted: true, Batch: []int{3, 3}, At: 2},
		{Step: 3, Op: api.Op{Code: api.CodeLook, Row: 1}, Log: 1, Posted: true, Ready: true},
		{Step: 10, Op: api.Op{Code: api.CodeSecond, Row: 3, Arg: 255}, Log: 1, Posted: true},
		{Step: 3, Op: api.Op{Code: api.CodeSecond, Row: 2}, Log: 0, Posted: true, Seen: 7},
	} {
		m.Threads[thread] = x
	}
	for i, x := range []struct {
		thread int
		step   int
		batch  []int
		posted []bool
	}{
		{0, api.StepLoad, []int{0, 2}, []bool{false, true, false, true}},
		{1, api.StepFree, nil, []bool{false, true, false, true}},
		{3, api.StepLoad, []int{3}, []bool{false, true, false, false}},
	} {
		got, e := Collect(m, x.thread)
		if e != api.OK {
			t.Fatalf("P17.1: call %d, of thread %d: %d", i, x.thread, e)
		}
		if y := got.Threads[x.thread]; y.Step != x.step || !slices.Equal(y.Batch, x.batch) || y.At != 0 {
			t.Errorf("P17.1: call %d, of thread %d: %+v; want %+v", i, x.thread, y, x)
		}
		for other, posted := range x.posted {
			if got.Threads[other].Posted != posted {
				t.Errorf("P17.1: call %d, of thread %d: thread %d is posted: %t", i, x.thread, other, !posted)
			}
		}
		m = got
	}
	for _, thread := range samples.Below(4) {
		refuses(t, m, thread)
	}
}

func TestEachThreadOfEachMachine(t *testing.T) {
	for _, c := range samples.FairConfigs() {
		for _, m := range some(c) {
			for _, thread := range samples.Below(c.Threads) {
				collects(t, m, thread, waiters(m, thread))
			}
		}
	}
}

func TestTheOneThatCollectsAloneIsAtItsStep(t *testing.T) {
	for _, c := range samples.FewConfigs() {
		for turn := range 20 {
			for _, thread := range samples.Below(c.Threads) {
				m := samples.MachineWith(samples.BusyMachine(c, turn), func(m *api.Machine) { m.Threads[thread].Step = 3 })
				collects(t, m, thread, waiters(m, thread))
			}
		}
	}
}

func TestAllThatThreadsMayBe(t *testing.T) {
	for _, c := range samples.FairConfigs() {
		all := []api.Thread{
			{Step: 3, Op: api.Op{Row: 3, Arg: 7}, Posted: true},
			{Step: 3, Op: api.Op{Code: 1, Row: 2}, Batch: []int{0}, At: 1, Ready: true},
			{Step: 3, Op: api.Op{Code: 2, Row: 1}, Posted: true},
			{Step: 3, Op: api.Op{Code: 1}, Log: c.Logs - 1, Posted: true, Ready: true},
		}
		for _, m := range samples.EachAs(samples.FreshMachine(c), all) {
			for _, thread := range samples.Below(c.Threads) {
				who := waiters(m, thread)
				got, e := Collect(m, thread)
				if e != api.OK || !samples.SameMachine(got, collected(m, thread, who)) {
					t.Fatalf("P17.1: of thread %d: %+v, %d; want the batch %v: of %+v", thread, got.Threads, e, who, m.Threads)
				}
			}
		}
	}
}

func TestNobodyWaits(t *testing.T) {
	for _, c := range samples.FairConfigs() {
		for _, m := range some(c) {
			for _, thread := range samples.Below(c.Threads) {
				for log := range c.Logs {
					collects(t, posters(m, log), thread, nil)
				}
			}
		}
	}
}

func TestAllWait(t *testing.T) {
	for _, c := range samples.FairConfigs() {
		for _, m := range some(c) {
			for _, thread := range samples.Below(c.Threads) {
				for log := range c.Logs {
					collects(t, posters(m, log, 0, 1, 2, 3), thread, samples.AtReplica(c, samples.ReplicaOf(c, thread)))
				}
			}
		}
	}
}

func TestOneAloneWaits(t *testing.T) {
	for _, c := range samples.FairConfigs() {
		for _, m := range []api.Machine{samples.FreshMachine(c), samples.FullMachine(c), samples.BusyMachine(c, 6)} {
			for _, thread := range samples.Below(c.Threads) {
				for _, alone := range samples.Below(c.Threads) {
					// Who waits at another replica is collected by no thread of this one.
					who := []int{alone}
					if samples.ReplicaOf(c, alone) != samples.ReplicaOf(c, thread) {
						who = nil
					}
					collects(t, posters(due(m), c.Logs-1, alone), thread, who)
				}
			}
		}
	}
}

func TestNobodyToCollect(t *testing.T) {
	for _, c := range samples.FairConfigs() {
		for _, m := range some(c) {
			for _, thread := range samples.Below(c.Threads) {
				for _, o := range []api.Op{{Code: 2}, {Code: 2, Row: 3}, {Code: 3}} {
					collects(t, samples.AllAs(m, api.Thread{Step: 3, Op: o, Posted: true}), thread, nil)
				}
				if c.Logs == 2 {
					others := samples.AllAs(m, api.Thread{Step: 3, Op: api.Op{Arg: 1}, Log: 1, Posted: true})
					others.Threads[thread].Log, others.Threads[thread].Posted = 0, false
					collects(t, others, thread, nil)
				}
				elsewhere := posters(m, 0, samples.AtReplica(c, 0)...)
				if samples.ReplicaOf(c, thread) == 1 {
					collects(t, elsewhere, thread, nil)
				}
			}
		}
	}
}

func TestOneThatLooksCollectsForItsLog(t *testing.T) {
	for _, c := range samples.FairConfigs() {
		for _, thread := range samples.Below(c.Threads) {
			for _, o := range []api.Op{{Code: 2, Row: 1}, {Code: 3}} {
				m := posters(due(samples.BusyMachine(c, 5)), c.Logs-1, 0, 1, 2, 3)
				m.Threads[thread].Op = o
				who := slices.DeleteFunc(samples.AtReplica(c, samples.ReplicaOf(c, thread)), func(x int) bool { return x == thread })
				collects(t, m, thread, who)
			}
		}
	}
}

func TestWhateverItsBatchAndAtWere(t *testing.T) {
	for _, c := range samples.FewConfigs() {
		for _, thread := range samples.Below(c.Threads) {
			for length := range c.Threads + 1 {
				for at := range length + 1 {
					for _, one := range samples.Below(c.Threads) {
						m := due(samples.BusyMachine(c, 7+length))
						m.Threads[thread].Batch, m.Threads[thread].At = slices.Repeat([]int{one}, length), at
						collects(t, posters(m, 0), thread, nil)
						collects(t, posters(m, 0, 0, 1, 2, 3), thread, samples.AtReplica(c, samples.ReplicaOf(c, thread)))
						collects(t, posters(m, 0, thread), thread, []int{thread})
					}
				}
			}
		}
	}
}

func TestNoLockIsAskedFor(t *testing.T) {
	c := api.Config{Object: api.ObjectQueue, Replicas: 2, Logs: 2, Threads: 3, Slots: 8}
	m := posters(due(samples.FreshMachine(c)), 1, 0, 1, 2)
	for holder := range 4 {
		m.Replicas[0].Locks[1], m.Replicas[1].Locks[1], m.Rings[1].Fence = holder, 3-holder, holder
		collects(t, m, 0, []int{0, 2})
		collects(t, m, 1, []int{1})
		collects(t, m, 2, []int{0, 2})
	}
}

func TestRowsOfCalls(t *testing.T) {
	for _, c := range samples.FewConfigs() {
		m := due(samples.BusyMachine(c, 8))
		for turn := range 100 {
			for _, x := range []int{turn * 3, turn / 2, turn * turn} {
				m, _ = board.Post(m, x%c.Threads)
			}
			thread := turn * 7 / 3 % c.Threads
			collects(t, m, thread, waiters(m, thread))
			m, _ = Collect(m, thread)
			refuses(t, m, thread)
			x := &m.Threads[thread]
			x.Step, x.Op, x.Log = 3, api.Op{Code: turn % 3, Row: turn % 4}, turn/2%c.Logs
		}
	}
}

func TestEachOtherStep(t *testing.T) {
	for _, c := range samples.FairConfigs() {
		for _, thread := range samples.Below(c.Threads) {
			for step := range 20 {
				if step == 3 {
					continue
				}
				for _, m := range []api.Machine{posters(samples.FreshMachine(c), 0, 0, 1, 2, 3), samples.BusyMachine(c, step+4)} {
					refuses(t, samples.AllAtStep(m, step), thread)
					// All others are about to collect.
					others := due(m)
					others.Threads[thread].Step = step
					refuses(t, others, thread)
				}
			}
		}
	}
}

func TestNoSuchThread(t *testing.T) {
	for _, c := range samples.FairConfigs() {
		for _, m := range []api.Machine{due(samples.FreshMachine(c)), posters(due(samples.BusyMachine(c, 5)), 0, 0, 1, 2, 3)} {
			for _, thread := range samples.Outside(0, c.Threads-1) {
				refuses(t, m, thread)
			}
		}
	}
}

func TestMachinesThatMayNotBe(t *testing.T) {
	for turn, c := range samples.FewConfigs() {
		for _, m := range []api.Machine{samples.FreshMachine(c), samples.FullMachine(c), samples.BusyMachine(c, turn+4)} {
			if fault := samples.WrongMachines(due(m), api.ErrBatchForm, calls(c)...); fault != "" {
				t.Errorf("P17.1: %s: of %+v", fault, m)
			}
		}
	}
}

func TestEachThreadOfMachinesThatMayNotBe(t *testing.T) {
	c := api.Config{Object: api.ObjectQueue, Replicas: 2, Logs: 2, Threads: 2, Slots: 4}
	m := posters(due(samples.BusyMachine(c, 2)), 1, 0, 1)
	for thread, call := range calls(c) {
		if fault := samples.WrongMachines(m, api.ErrBatchForm, call); fault != "" {
			t.Errorf("P17.1: of thread %d: %s", thread, fault)
		}
	}
}

func TestSeveralThingsWrong(t *testing.T) {
	for _, m := range []api.Machine{{}, {Config: samples.FewConfigs()[5]}, {Threads: []api.Thread{{Step: 3}}}} {
		for _, thread := range samples.Around(4) {
			refuses(t, m, thread)
		}
	}
	for _, c := range samples.FewConfigs() {
		wrong := samples.MachineWith(due(samples.FullMachine(c)), func(m *api.Machine) { m.History[0].Thread = -1 })
		for _, thread := range samples.Outside(0, c.Threads-1) {
			refuses(t, wrong, thread)
			refuses(t, samples.FullMachine(c), thread)
			refuses(t, samples.AllAtStep(wrong, 4), thread)
		}
		for _, thread := range samples.Below(c.Threads) {
			refuses(t, samples.AllAtStep(wrong, 4), thread)
			refuses(t, samples.AllAtStep(wrong, 20), thread)
		}
	}
}

func TestMemoryOfItsOwn(t *testing.T) {
	for _, c := range samples.FewConfigs() {
		for _, m := range append(some(c), posters(due(samples.FullMachine(c)), 0, 0, 1, 2, 3)) {
			for thread, call := range calls(c) {
				if fault := call.Sharing(m); fault != "" {
					t.Errorf("P17.1: of thread %d: %s: of %+v", thread, fault, m)
				}
			}
		}
	}
}

func TestAnswersHangOnNothingElse(t *testing.T) {
	c := api.Config{Object: api.ObjectQueue, Replicas: 2, Logs: 2, Threads: 4, Slots: 16}
	all, nobody := posters(due(samples.BusyMachine(c, 8)), 1, 0, 1, 2, 3), posters(due(samples.BusyMachine(c, 8)), 1)
	full, empty := collected(all, 3, []int{1, 3}), collected(nobody, 3, nil)
	old := samples.CopiedMachine(all)
	faults := samples.Together(func() string {
		for range 100 {
			for _, fault := range []string{
				collecting(3).Answer(all, full, true), collecting(3).Answer(nobody, empty, true),
				collecting(3).Refusal(full, api.ErrBatchForm), collecting(4).Refusal(all, api.ErrBatchForm),
			} {
				if fault != "" {
					return fault
				}
			}
			// The machines themselves, with no copy between, are handed in by all.
			if m, e := Collect(all, 3); e != api.OK || !samples.SameMachine(m, full) {
				return "all wait"
			}
			if m, e := Collect(nobody, 3); e != api.OK || !samples.SameMachine(m, empty) {
				return "nobody waits"
			}
		}
		return ""
	})
	for _, fault := range faults {
		t.Errorf("R5: %s", fault)
	}
	if !samples.SameMachine(all, old) {
		t.Errorf("R4: what was given is changed: %+v", all)
	}
}
