package steps

import (
	"testing"

	"chorus/api"
	"chorus/replay"
	"chorus/samples"
)

// within: is it that thread of its machine, at its replica?
func within(g Goer, thread int) bool {
	return g.Number == thread && g.Thread == &g.Machine.Threads[thread] && g.Replica == samples.ReplicaOf(g.Machine.Config, thread)
}

func TestGoersAreTheThreadsThatThereAre(t *testing.T) {
	for _, c := range samples.FairConfigs() {
		for _, m := range []api.Machine{samples.FreshMachine(c), samples.BusyMachine(c, 6)} {
			for _, thread := range samples.Below(c.Threads) {
				g, is := Of(m, thread)
				if !is || !within(g, thread) || !samples.SameMachine(g.Machine, m) {
					t.Errorf("thread %d of %+v: %+v, %t", thread, m, g, is)
				}
			}
			wrong := samples.MachineWith(m, func(m *api.Machine) { m.Threads[0].Log = c.Logs })
			for _, thread := range samples.Around(c.Threads) {
				if g, is := Of(wrong, thread); is || g.Thread != nil || !samples.IsNoMachine(g.Machine) {
					t.Errorf("thread %d of %+v: %+v", thread, wrong, g)
				}
			}
			for _, thread := range samples.Outside(0, c.Threads-1) {
				if g, is := Of(m, thread); is || g.Thread != nil || !samples.IsNoMachine(g.Machine) {
					t.Errorf("thread %d of %+v: %+v", thread, m, g)
				}
			}
		}
	}
}

// of: the machine of that thread's goer, as a call under test.
func of(thread int) samples.MachineCall {
	return func(m api.Machine) (api.Machine, bool, api.Errno) {
		g, is := Of(m, thread)
		return g.Machine, is, api.OK
	}
}

func TestGoersMachinesAreInMemoryOfTheirOwn(t *testing.T) {
	for _, c := range samples.FewConfigs() {
		for _, m := range samples.FairMachines(c) {
			for _, thread := range samples.Below(c.Threads) {
				if fault := of(thread).Sharing(m); fault != "" {
					t.Errorf("thread %d of %+v: %s", thread, m, fault)
				}
			}
		}
	}
}

func TestRingIsTheOneOfItsLog(t *testing.T) {
	for _, c := range samples.FewConfigs() {
		for log := range c.Logs {
			for _, thread := range samples.Below(c.Threads) {
				m := samples.BusyMachine(c, 5)
				m.Threads[thread].Log = log
				g, _ := Of(m, thread)
				g.Ring().Fence = 1
				g.Step = 9
				m.Rings[log].Fence, m.Threads[thread].Step = 1, 9
				if !samples.SameMachine(g.Machine, m) {
					t.Errorf("log %d, thread %d of %+v: %+v", log, thread, m, g.Machine)
				}
			}
		}
	}
}

func TestReplayIsOfItsLogAtThatReplica(t *testing.T) {
	for _, c := range samples.FewConfigs() {
		for _, p := range samples.Places(c) {
			for _, thread := range samples.Below(c.Threads) {
				m := samples.Laid(samples.BusyMachine(c, 8), p, 3, 3, 5, 3)
				m.Threads[thread].Log = p.Log
				g, _ := Of(m, thread)
				want := m
				// There is one entry, and then none.
				for range 2 {
					want, _, _ = replay.One(want, p.Replica, p.Log)
					if !g.Replay(p.Replica) || !within(g, thread) || !samples.SameMachine(g.Machine, want) {
						t.Errorf("at %+v: %+v; want %+v", p, g, want)
					}
				}
				if g.Replay(c.Replicas) || !within(g, thread) || !samples.SameMachine(g.Machine, want) {
					t.Errorf("at %+v: %+v; there is no such replica", p, g)
				}
			}
		}
	}
}
