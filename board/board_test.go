package board

import (
	"math"
	"slices"
	"strconv"
	"testing"

	"chorus/api"
	"chorus/samples"
)

// posting: Post of this thread, as a call under test.
func posting(thread int) samples.MachineCall {
	return samples.Always(func(m api.Machine) (api.Machine, api.Errno) { return Post(m, thread) })
}

// waiting: Waiting at this place, as a call under test; the threads are told as listed tells them.
func waiting(p samples.Place) samples.MachineCall {
	return samples.Always(func(m api.Machine) (api.Machine, api.Errno) {
		who, e := Waiting(m, p.Replica, p.Log)
		if e != api.OK && len(who) == 0 {
			return api.Machine{}, e
		}
		return listed(who), e
	})
}

// listed: these numbers, as a machine that has nothing else.
func listed(xs []int) api.Machine {
	return api.Machine{Threads: []api.Thread{{Batch: xs}}}
}

// calls: both calls, of each thread and each place that a machine of c has.
func calls(c api.Config) []samples.MachineCall {
	var all []samples.MachineCall
	for _, thread := range samples.Below(c.Threads) {
		all = append(all, posting(thread))
	}
	for _, p := range samples.Places(c) {
		all = append(all, waiting(p))
	}
	return all
}

// posted: m, but that thread waits to be served.
func posted(m api.Machine, thread int) api.Machine {
	return samples.MachineWith(m, func(m *api.Machine) { m.Threads[thread].Posted, m.Threads[thread].Ready = true, false })
}

// tell reports a fault, if there is one, of this call of m.
func tell(t *testing.T, call string, m api.Machine, fault string) {
	t.Helper()
	if fault != "" {
		t.Errorf("P16.1: %s: %s: of %+v", call, fault, m)
	}
}

// text: the place, as text.
func text(p samples.Place) string {
	return "Waiting at " + strconv.Itoa(p.Replica) + ", " + strconv.Itoa(p.Log)
}

// wait reports a fault, if there is one, of Waiting at that place of m.
func wait(t *testing.T, m api.Machine, p samples.Place, want []int) {
	t.Helper()
	if fault := waiting(p).Answer(m, listed(want), true); fault != "" {
		got, _ := Waiting(m, p.Replica, p.Log)
		t.Errorf("P16.1: %s: %s: %v, want %v: of %+v", text(p), fault, got, want, m.Threads)
	}
}

// some: machines of c, new ones and ones in the midst of things.
func some(c api.Config) []api.Machine {
	return []api.Machine{samples.FreshMachine(c), samples.FullMachine(c), samples.BusyMachine(c, 3), samples.BusyMachine(c, 10), samples.BusyMachine(c, 14)}
}

func TestWrittenOut(t *testing.T) {
	m := samples.FreshMachine(api.Config{Object: api.ObjectFds, Replicas: 2, Logs: 2, Threads: 4, Slots: 8})
	for thread, x := range []api.Thread{
		{Op: api.Op{Code: api.CodeFirst, Row: 1}, Log: 1},
		{Op: api.Op{Code: api.CodeLook, Row: 1}, Log: 1},
		{Op: api.Op{Code: api.CodeSecond, Row: 3, Arg: 255}, Log: 1},
		{Op: api.Op{Code: api.CodeSecond, Row: 2}, Log: 0},
	} {
		m.Threads[thread] = x
	}
	for i, x := range []struct {
		thread int
		want   [4][]int
	}{
		{2, [4][]int{{}, {2}, {}, {}}},
		{1, [4][]int{{}, {2}, {}, {}}},
		{3, [4][]int{{}, {2}, {3}, {}}},
		{0, [4][]int{{}, {0, 2}, {3}, {}}},
		{0, [4][]int{{}, {0, 2}, {3}, {}}},
	} {
		got, e := Post(m, x.thread)
		if e != api.OK || !got.Threads[x.thread].Posted || got.Threads[x.thread].Ready {
			t.Fatalf("P16.1: post %d, of thread %d: %+v, %d", i, x.thread, got.Threads, e)
		}
		m = got
		for j, p := range []samples.Place{{Replica: 0, Log: 0}, {Replica: 0, Log: 1}, {Replica: 1, Log: 0}, {Replica: 1, Log: 1}} {
			wait(t, m, p, x.want[j])
		}
	}
}

func TestPostWhateverTheMarksWere(t *testing.T) {
	for _, c := range samples.FairConfigs() {
		for _, m := range some(c) {
			for _, thread := range samples.Below(c.Threads) {
				for _, marks := range [][2]bool{{false, false}, {false, true}, {true, false}, {true, true}} {
					x := samples.MachineWith(m, func(m *api.Machine) {
						m.Threads[thread].Posted, m.Threads[thread].Ready = marks[0], marks[1]
					})
					tell(t, "Post of "+strconv.Itoa(thread), x, posting(thread).Answer(x, posted(m, thread), true))
				}
			}
		}
	}
}

func TestPostOfEachMachineThatMayBe(t *testing.T) {
	for _, c := range samples.FewConfigs() {
		for turn := range 40 {
			m := samples.BusyMachine(c, turn)
			for _, thread := range samples.Below(c.Threads) {
				tell(t, "Post of "+strconv.Itoa(thread), m, posting(thread).Answer(m, posted(m, thread), true))
			}
		}
		for _, m := range samples.FairMachines(c) {
			for _, thread := range samples.Below(c.Threads) {
				tell(t, "Post of "+strconv.Itoa(thread), m, posting(thread).Answer(m, posted(m, thread), true))
			}
		}
	}
}

func TestWaitingOfEachMachineThatMayBe(t *testing.T) {
	for _, c := range samples.FairConfigs() {
		for _, m := range append(samples.FairMachines(c), some(c)...) {
			for _, p := range samples.Places(c) {
				wait(t, m, p, samples.WhoWaits(m, p))
			}
		}
	}
}

func TestWaitingOfAllThatThreadsMayBe(t *testing.T) {
	first, second, look := api.Op{Row: 3, Arg: 7}, api.Op{Code: 1, Row: 2}, api.Op{Code: 2, Row: 1}
	for _, c := range samples.FairConfigs() {
		all := []api.Thread{{Op: first, Posted: true}, {Op: second}, {Op: look, Posted: true}, {Op: second, Log: c.Logs - 1, Posted: true, Ready: true, Step: 10}}
		for _, m := range samples.EachAs(samples.FreshMachine(c), all) {
			for _, p := range samples.Places(c) {
				got, e := Waiting(m, p.Replica, p.Log)
				if want := samples.WhoWaits(m, p); e != api.OK || !slices.Equal(got, want) {
					t.Fatalf("P16.1: %s: %v, %d; want %v: of %+v", text(p), got, e, want, m.Threads)
				}
			}
		}
	}
}

func TestNobodyWaits(t *testing.T) {
	for _, c := range samples.FairConfigs() {
		for _, m := range some(c) {
			for _, p := range samples.Places(c) {
				wait(t, samples.MachineWith(m, func(m *api.Machine) {
					for i := range m.Threads {
						m.Threads[i].Posted = false
					}
				}), p, nil)
				for _, o := range []api.Op{{Code: 2}, {Code: 2, Row: 3}, {Code: 3}} {
					wait(t, samples.AllAs(m, api.Thread{Op: o, Log: p.Log, Posted: true}), p, nil)
				}
				if c.Logs == 2 {
					wait(t, samples.AllAs(m, api.Thread{Op: api.Op{Arg: 1}, Log: 1 - p.Log, Posted: true}), p, nil)
				}
			}
		}
	}
}

func TestAllWait(t *testing.T) {
	for _, c := range samples.FairConfigs() {
		for _, m := range some(c) {
			for _, p := range samples.Places(c) {
				for _, o := range []api.Op{{}, {Row: 3, Arg: 255}, {Code: 1}, {Code: 1, Row: 3, Arg: 255}} {
					wait(t, samples.AllAs(m, api.Thread{Op: o, Log: p.Log, Posted: true}), p, samples.AtReplica(c, p.Replica))
				}
			}
		}
	}
}

func TestWaitingHangsOnNothingElseOfTheThread(t *testing.T) {
	c := api.Config{Object: api.ObjectStore, Replicas: 2, Logs: 2, Threads: 4, Slots: 8}
	waits := api.Thread{Op: api.Op{Code: 1, Row: 2, Arg: 9}, Log: 1, Posted: true}
	for _, turn := range []func(x *api.Thread, n int){
		func(x *api.Thread, n int) { x.Step = n },
		func(x *api.Thread, n int) { x.Ready = n%2 == 1 },
		func(x *api.Thread, n int) { x.Seen = n * 52428 },
		func(x *api.Thread, n int) { x.Answer = n - 9 },
		func(x *api.Thread, n int) { x.Batch = []int{n % 4, 1}[:n%3]; x.At = n % 3 },
		func(x *api.Thread, n int) { x.Tails = []int{n, 1}[:n%3] },
		func(x *api.Thread, n int) { x.Op.Row = n % 4 },
		func(x *api.Thread, n int) { x.Op.Arg = n },
	} {
		for n := range 20 {
			m := samples.FreshMachine(c)
			for i := range m.Threads {
				m.Threads[i] = waits
				turn(&m.Threads[i], n+i&1)
				m.Threads[i].Step = min(m.Threads[i].Step, 19)
			}
			wait(t, m, samples.Place{Replica: 0, Log: 1}, []int{0, 2})
			wait(t, m, samples.Place{Replica: 1, Log: 1}, []int{1, 3})
			wait(t, m, samples.Place{Replica: 1, Log: 0}, nil)
		}
	}
}

func TestWaitingHangsOnNoLock(t *testing.T) {
	c := api.Config{Object: api.ObjectQueue, Replicas: 2, Logs: 2, Threads: 3, Slots: 8}
	m := samples.AllAs(samples.FreshMachine(c), api.Thread{Posted: true})
	for holder := range 4 {
		m.Replicas[0].Locks[0], m.Replicas[1].Locks[0], m.Rings[0].Fence = holder, 3-holder, holder
		wait(t, m, samples.Place{Replica: 0, Log: 0}, []int{0, 2})
		wait(t, m, samples.Place{Replica: 1, Log: 0}, []int{1})
	}
}

func TestRowsOfCalls(t *testing.T) {
	for _, c := range samples.FewConfigs() {
		m := samples.BusyMachine(c, 8)
		want := samples.CopiedMachine(m)
		for turn := range 100 {
			thread := turn * 7 % c.Threads
			want.Threads[thread].Posted, want.Threads[thread].Ready = true, false
			tell(t, "Post of "+strconv.Itoa(thread), m, posting(thread).Answer(m, want, true))
			m, _ = Post(m, thread)
			for _, p := range samples.Places(c) {
				wait(t, m, p, samples.WhoWaits(want, p))
			}
			// Another one is served, or called again.
			served := turn * 5 / 3 % c.Threads
			for _, x := range []*api.Thread{&m.Threads[served], &want.Threads[served]} {
				x.Posted, x.Ready, x.Op.Code, x.Op.Arg, x.Log = false, true, turn%3, 0, turn%c.Logs
			}
		}
	}
}

func TestNoSuchThread(t *testing.T) {
	for _, c := range samples.FairConfigs() {
		for _, m := range some(c) {
			for _, thread := range []int{-1, c.Threads, math.MinInt, math.MaxInt} {
				tell(t, "Post of "+strconv.Itoa(thread), m, posting(thread).Refusal(m, api.ErrBoardForm))
			}
		}
		for _, thread := range samples.Outside(0, c.Threads-1) {
			m := samples.FullMachine(c)
			tell(t, "Post of "+strconv.Itoa(thread), m, posting(thread).Refusal(m, api.ErrBoardForm))
		}
	}
}

func TestNoSuchReplicaOrLog(t *testing.T) {
	for _, c := range samples.FairConfigs() {
		for _, m := range []api.Machine{samples.FreshMachine(c), samples.AllAs(samples.BusyMachine(c, 5), api.Thread{Posted: true})} {
			for _, p := range samples.NoPlaces(c) {
				tell(t, text(p), m, waiting(p).Refusal(m, api.ErrBoardForm))
			}
		}
	}
}

func TestMachinesThatMayNotBe(t *testing.T) {
	for turn, c := range samples.FewConfigs() {
		for _, m := range []api.Machine{samples.FreshMachine(c), samples.FullMachine(c), samples.BusyMachine(c, turn+4)} {
			tell(t, "either call", m, samples.WrongMachines(m, api.ErrBoardForm, calls(c)...))
		}
	}
}

func TestEachCallOfMachinesThatMayNotBe(t *testing.T) {
	c := api.Config{Object: api.ObjectQueue, Replicas: 2, Logs: 2, Threads: 2, Slots: 4}
	m := samples.BusyMachine(c, 2)
	for _, call := range calls(c) {
		tell(t, "a call", m, samples.WrongMachines(m, api.ErrBoardForm, call))
	}
}

func TestNoMachineAtAll(t *testing.T) {
	for _, m := range []api.Machine{{}, {Config: samples.FewConfigs()[5]}} {
		for _, thread := range samples.Around(4) {
			tell(t, "Post of "+strconv.Itoa(thread), m, posting(thread).Refusal(m, api.ErrBoardForm))
		}
		for _, p := range append(samples.Places(samples.FewConfigs()[5]), samples.NoPlaces(samples.FewConfigs()[5])...) {
			tell(t, text(p), m, waiting(p).Refusal(m, api.ErrBoardForm))
		}
	}
}

func TestAMachineThatMayNotBeAtNoPlace(t *testing.T) {
	for _, c := range samples.FewConfigs() {
		m := samples.MachineWith(samples.FullMachine(c), func(m *api.Machine) { m.Threads[0].Step = -1 })
		for _, thread := range samples.Outside(0, c.Threads-1) {
			tell(t, "Post of "+strconv.Itoa(thread), m, posting(thread).Refusal(m, api.ErrBoardForm))
		}
		for _, p := range samples.NoPlaces(c) {
			tell(t, text(p), m, waiting(p).Refusal(m, api.ErrBoardForm))
		}
	}
}

func TestMemoryOfItsOwn(t *testing.T) {
	for _, c := range samples.FewConfigs() {
		for _, m := range append(samples.FairMachines(c), samples.AllAs(samples.FullMachine(c), api.Thread{Posted: true})) {
			for i, call := range calls(c) {
				tell(t, "call "+strconv.Itoa(i), m, call.Sharing(m))
			}
		}
	}
}

func TestAnswersHangOnNothingElse(t *testing.T) {
	c := api.Config{Object: api.ObjectQueue, Replicas: 2, Logs: 2, Threads: 4, Slots: 16}
	p := samples.Place{Replica: 1, Log: 1}
	before := samples.AllAs(samples.BusyMachine(c, 8), api.Thread{Log: 1, Ready: true})
	before.Threads[1].Posted = true
	after := posted(before, 3)
	old := samples.CopiedMachine(before)
	faults := samples.Together(func() string {
		for range 100 {
			for _, fault := range []string{
				posting(3).Answer(before, after, true), posting(3).Answer(after, after, true), posting(4).Refusal(before, api.ErrBoardForm),
				waiting(p).Answer(before, listed([]int{1}), true), waiting(p).Answer(after, listed([]int{1, 3}), true),
				waiting(samples.Place{Replica: 2, Log: 1}).Refusal(after, api.ErrBoardForm),
			} {
				if fault != "" {
					return fault
				}
			}
			// The machines themselves, with no copy between, are handed in by all.
			if m, e := Post(before, 3); e != api.OK || !samples.SameMachine(m, after) {
				return "Post"
			}
			if who, e := Waiting(after, p.Replica, p.Log); e != api.OK || !slices.Equal(who, []int{1, 3}) {
				return "Waiting"
			}
		}
		return ""
	})
	for _, fault := range faults {
		t.Errorf("R5: %s", fault)
	}
	if !samples.SameMachine(before, old) {
		t.Errorf("R4: what was given is changed: %+v", before)
	}
}
