package claim

import (
	"math"
	"slices"
	"testing"

	"chorus/api"
	"chorus/replay"
	"chorus/samples"
	"chorus/start"
)

// list is a row of numbers.
type list = []int

// scene is a thread ahead of its step, and the log that it is of: from head on below tail, all entries published; how far each replica is in it, and who holds each one's lock (nil: 0 each).
type scene struct {
	thread, step, log int
	batch             list
	seen, at          int
	head, tail, fence int
	cursors, locks    list
}

// of: m, but for what the scene tells; each thread has an operation that updates.
func (s scene) of(m api.Machine) api.Machine {
	m = samples.Laid(m, samples.Place{Log: s.log}, s.head, s.tail, s.tail, samples.Between(s.head, s.tail)...)
	m.Rings[s.log].Fence = s.fence
	for i := range m.Replicas {
		r := &m.Replicas[i]
		r.Cursors[s.log], r.Locks[s.log] = nth(s.cursors, i, s.head), nth(s.locks, i, 0)
	}
	for i := range m.Threads {
		m.Threads[i].Op = api.Op{Code: i % 2, Row: i, Arg: 40 + i}
	}
	x := &m.Threads[s.thread]
	x.Step, x.Log, x.Batch, x.Seen, x.At = s.step, s.log, slices.Clone(s.batch), s.seen, s.at
	return m
}

// nth: number i of these, or what stands for it where there is none.
func nth(xs list, i, other int) int {
	if i < len(xs) {
		return xs[i]
	}
	return other
}

// stepping: Step of this thread, as a call under test.
func stepping(thread int) samples.MachineCall {
	return samples.Always(func(m api.Machine) (api.Machine, api.Errno) { return Step(m, thread) })
}

// calls: Step of each thread that a machine of c has.
func calls(c api.Config) []samples.MachineCall {
	var all []samples.MachineCall
	for _, thread := range samples.Below(c.Threads) {
		all = append(all, stepping(thread))
	}
	return all
}

// becomes reports a fault, if there is one, of Step of that thread of m, that should answer this.
func becomes(t *testing.T, m api.Machine, thread int, want api.Machine) {
	t.Helper()
	if fault := stepping(thread).Answer(m, want, true); fault != "" {
		got, e := Step(m, thread)
		t.Errorf("P19.1: of thread %d: %s: %+v, %d; want %+v: of %+v", thread, fault, got, e, want, m)
	}
}

// refuses reports a fault, if there is one, of Step of that thread of m, that should be refused.
func refuses(t *testing.T, m api.Machine, thread int) {
	t.Helper()
	if fault := stepping(thread).Refusal(m, api.ErrClaimForm); fault != "" {
		t.Errorf("P19.1: of thread %d: %s: of %+v", thread, fault, m)
	}
}

// with: m, but for what turn does to that thread and its log.
func with(m api.Machine, thread int, turn func(x *api.Thread, r *api.Ring)) api.Machine {
	return samples.MachineWith(m, func(m *api.Machine) {
		x := &m.Threads[thread]
		turn(x, &m.Rings[x.Log])
	})
}

// atStep: m, with that thread at another step.
func atStep(m api.Machine, thread, step int) api.Machine {
	return with(m, thread, func(x *api.Thread, r *api.Ring) { x.Step = step })
}

// seen: m, in which that thread has seen where its log's tail is, and is at that step.
func seen(m api.Machine, thread, step int) api.Machine {
	return with(m, thread, func(x *api.Thread, r *api.Ring) { x.Seen, x.Step = r.Tail, step })
}

// helped: m, in which that replica has done the next entry of the thread's log, and there must be one, or there must be none.
func helped(t *testing.T, m api.Machine, replica, thread int, there bool) api.Machine {
	t.Helper()
	got, is, e := replay.One(m, replica, m.Threads[thread].Log)
	if e != api.OK || is != there {
		t.Errorf("an entry at replica %d: %t, %d: of %+v", replica, is, e, m)
	}
	return got
}

// batches: a batch of each length that one of c's threads may have, in which threads are rising, falling, or one alone.
func batches(c api.Config) []list {
	var all []list
	for count := 1; count <= c.Threads; count++ {
		rising := samples.Below(count)
		falling := slices.Clone(rising)
		slices.Reverse(falling)
		all = append(all, rising, falling, slices.Repeat(list{c.Threads - 1}, count))
	}
	return all
}

// lengths: one batch of each length that one of c's threads may have.
func lengths(c api.Config) []list {
	var all []list
	for i, batch := range batches(c) {
		if i%3 == 1 {
			all = append(all, batch)
		}
	}
	return all
}

// heads: where a log of c may begin, with its tail so far behind: at the beginning, ahead of the end of the first two laps, and where it ends at the greatest place.
func heads(c api.Config, in int) []int {
	return []int{0, c.Slots - 1, 2*c.Slots - 1, 1048576 - in}
}

// fills: how many entries a log of c may have, none and all of them among these, and each number next to all.
func fills(c api.Config) []int {
	return slices.DeleteFunc(list{0, c.Slots / 2, c.Slots - 4, c.Slots - 3, c.Slots - 2, c.Slots - 1, c.Slots}, func(in int) bool { return in < 0 })
}

// few: a new machine of c, a full one, and one in the midst of things.
func few(c api.Config) []api.Machine {
	return []api.Machine{samples.FreshMachine(c), samples.FullMachine(c), samples.BusyMachine(c, 6)}
}

// told is what is told of a thread and its log, behind a step.
type told struct {
	step, seen, at, head, tail int
}

// tells reports a fault, if there is one, of what a step of that thread leaves; the machine that it leaves.
func tells(t *testing.T, m api.Machine, thread int, want told) api.Machine {
	t.Helper()
	got, e := Step(m, thread)
	if e != api.OK {
		t.Fatalf("P19.1: of thread %d: %d: of %+v", thread, e, m)
	}
	x := got.Threads[thread]
	r := got.Rings[x.Log]
	if is := (told{x.Step, x.Seen, x.At, r.Head, r.Tail}); is != want {
		t.Errorf("P19.1: of thread %d: %+v; want %+v", thread, is, want)
	}
	return got
}

func TestTwoThreadsWrittenOut(t *testing.T) {
	m := samples.FreshMachine(api.Config{Object: api.ObjectFds, Replicas: 2, Logs: 2, Threads: 3, Slots: 8})
	put, take, mine := api.Op{Row: 1}, api.Op{Code: 1, Row: 1, Arg: 3}, api.Op{Row: 3, Arg: 5}
	m.Threads = []api.Thread{
		{Step: 4, Op: put, Log: 1, Batch: list{0, 2}}, {Step: 4, Op: take, Log: 1, Batch: list{1}}, {Step: 10, Op: mine, Log: 1},
	}
	for _, x := range []struct {
		thread int
		want   told
	}{
		{0, told{step: 6}},
		{1, told{step: 6}},
		{1, told{step: 7, tail: 1}},
		{0, told{step: 4, tail: 1}},
		{0, told{step: 6, seen: 1, tail: 1}},
		{0, told{step: 7, seen: 1, tail: 3}},
		{0, told{step: 7, seen: 1, at: 1, tail: 3}},
		{1, told{step: 8, at: 1, tail: 3}},
		{0, told{step: 8, seen: 1, at: 2, tail: 3}},
	} {
		m = tells(t, m, x.thread, x.want)
	}
	want := []api.Slot{{Op: take, Thread: 1, Bit: 1}, {Op: put, Thread: 0, Bit: 1}, {Op: mine, Thread: 2, Bit: 1}, {}}
	if got := m.Rings[1].Slots[:4]; !slices.Equal(got, want) || m.Rings[0].Tail != 0 {
		t.Errorf("P19.1: %+v; want %+v: of %+v", got, want, m.Rings)
	}
	for _, thread := range samples.Below(3) {
		refuses(t, m, thread)
	}
}

func TestAFullLogWrittenOut(t *testing.T) {
	c := api.Config{Object: api.ObjectStore, Replicas: 2, Logs: 1, Threads: 2, Slots: 4}
	m := scene{thread: 1, step: 4, batch: list{1, 0}, seen: 3, at: 1, head: 6, tail: 10, cursors: list{6, 7}, locks: list{1, 1}}.of(samples.FreshMachine(c))
	for _, x := range []struct {
		cursors, locks list
		want           told
	}{
		// Two more are above what there is room for, and replica 0 is the last one: nobody may help it on as long as its lock is held.
		{list{6, 7}, list{1, 1}, told{step: 5, seen: 10, at: 1, head: 6, tail: 10}},
		{list{6, 7}, list{1, 1}, told{step: 5, seen: 10, at: 1, head: 6, tail: 10}},
		{list{7, 7}, list{0, 1}, told{step: 5, seen: 10, at: 1, head: 6, tail: 10}},
		{list{7, 7}, list{0, 1}, told{step: 4, seen: 10, at: 1, head: 7, tail: 10}},
		// One is free, two are asked for. Both replicas are the last ones, 0 the first of them.
		{list{7, 7}, list{0, 2}, told{step: 5, seen: 10, at: 1, head: 7, tail: 10}},
		{list{8, 7}, list{0, 2}, told{step: 5, seen: 10, at: 1, head: 7, tail: 10}},
		// Its own replica's lock is not asked for.
		{list{8, 8}, list{0, 1}, told{step: 5, seen: 10, at: 1, head: 7, tail: 10}},
		{list{8, 8}, list{2, 2}, told{step: 4, seen: 10, at: 1, head: 8, tail: 10}},
		{list{8, 8}, list{2, 2}, told{step: 6, seen: 10, at: 1, head: 8, tail: 10}},
		{list{8, 8}, list{2, 2}, told{step: 7, seen: 10, at: 0, head: 8, tail: 12}},
		{list{8, 8}, list{2, 2}, told{step: 7, seen: 10, at: 1, head: 8, tail: 12}},
		{list{8, 8}, list{2, 2}, told{step: 8, seen: 10, at: 2, head: 8, tail: 12}},
	} {
		for i := range m.Replicas {
			m.Replicas[i].Locks[0] = x.locks[i]
		}
		m = tells(t, m, 1, x.want)
		if far := (list{m.Replicas[0].Cursors[0], m.Replicas[1].Cursors[0]}); !slices.Equal(far, x.cursors) {
			t.Errorf("P19.1: at %v; want %v", far, x.cursors)
		}
	}
	if s := m.Rings[0].Slots[10%4:]; s[0] != (api.Slot{Op: m.Threads[1].Op, Thread: 1, Bit: 1}) || s[1] != (api.Slot{Op: m.Threads[0].Op, Bit: 1}) {
		t.Errorf("P19.1: %+v", s)
	}
}

func TestLoad(t *testing.T) {
	fair, tight := 0, 0
	for _, c := range samples.FairConfigs() {
		for _, thread := range samples.Below(c.Threads) {
			for _, batch := range lengths(c) {
				for _, in := range fills(c) {
					for turn, head := range heads(c, in) {
						s := scene{thread: thread, step: 4, log: turn % c.Logs, batch: batch, seen: turn, at: turn % len(batch), head: head, tail: head + in, cursors: list{head + in}}
						m := s.of(few(c)[(turn+in)%3])
						if in+len(batch) > c.Slots {
							becomes(t, m, thread, seen(m, thread, 5))
							tight++
						} else {
							becomes(t, m, thread, seen(m, thread, 6))
							fair++
						}
					}
				}
			}
		}
	}
	if fair < 1000 || tight < 1000 {
		t.Errorf("%d with room, %d without", fair, tight)
	}
}

func TestLoadAtTheEdgeOfTheRoom(t *testing.T) {
	for _, c := range samples.FairConfigs() {
		for _, m := range few(c) {
			for _, thread := range samples.Below(c.Threads) {
				for _, batch := range batches(c) {
					s := scene{thread: thread, step: 4, log: c.Logs - 1, batch: batch, head: 3, tail: 3 + c.Slots - len(batch)}
					fits := s.of(m)
					becomes(t, fits, thread, seen(fits, thread, 6))
					s.tail++
					tight := s.of(m)
					becomes(t, tight, thread, seen(tight, thread, 5))
				}
			}
		}
	}
}

func TestLoadOfALogThatIsFenced(t *testing.T) {
	for _, c := range samples.FairConfigs() {
		for turn, m := range few(c) {
			for _, thread := range samples.Below(c.Threads) {
				own := samples.ReplicaOf(c, thread)
				for fence := 1; fence <= c.Threads; fence++ {
					// No room, some room, and the log empty; the other replica is ahead, or behind.
					for _, in := range []int{0, 1, 2, c.Slots} {
						s := scene{thread: thread, step: 4, log: turn % c.Logs, batch: list{0}, seen: 9, head: 5, tail: 5 + in, fence: fence, cursors: list{5, 5}}
						s.cursors[1-own] += in / 2
						m := s.of(m)
						want := helped(t, m, own, thread, in > 0)
						becomes(t, m, thread, want)
						if x := want.Threads[thread]; x.Step != 4 || x.Seen != 9 || want.Replicas[own].Cursors[s.log] != 5+min(in, 1) {
							t.Errorf("P19.1: of thread %d: %+v", thread, want)
						}
						s.cursors[own] = 5 + in
						done := s.of(few(c)[turn])
						becomes(t, done, thread, done)
					}
				}
			}
		}
	}
}

func TestRoomIsFreedUpToTheLast(t *testing.T) {
	for _, c := range samples.FairConfigs() {
		for _, thread := range samples.Below(c.Threads) {
			for _, in := range []int{1, 2, c.Slots - 1, c.Slots} {
				for turn, head := range heads(c, in) {
					for _, far := range []list{{1, 1}, {1, in}, {in, 1}, {in, in}, {(in + 1) / 2, in}, {in, (in + 1) / 2}} {
						s := scene{thread: thread, step: 5, log: (turn + in) % c.Logs, batch: list{thread}, seen: 4, head: head, tail: head + in, cursors: list{head + far[0], head + far[1]}, locks: list{1, 1}}
						m := s.of(samples.BusyMachine(c, turn))
						least := head + min(far[0], far[1])
						if c.Replicas == 1 {
							least = head + far[0]
						}
						becomes(t, m, thread, with(m, thread, func(x *api.Thread, r *api.Ring) { r.Head, x.Step = least, 4 }))
					}
				}
			}
		}
	}
}

func TestRoomForWhichTheLastIsHelpedOn(t *testing.T) {
	for _, c := range samples.FairConfigs() {
		for turn, m := range few(c) {
			for _, thread := range samples.Below(c.Threads) {
				for _, far := range []list{{0, 0}, {0, 1}, {0, c.Slots}, {1, 0}, {c.Slots, 0}} {
					last := slices.Index(far[:c.Replicas], 0)
					if last < 0 {
						continue
					}
					for lock := range c.Threads + 1 {
						s := scene{thread: thread, step: 5, log: turn % c.Logs, batch: list{thread}, seen: 4, head: 7, tail: 7 + c.Slots, cursors: list{7 + far[0], 7 + far[1]}, locks: list{lock, lock}}
						s.locks[1-last] = c.Threads - lock
						m := s.of(m)
						want := m
						if last == samples.ReplicaOf(c, thread) || lock == 0 {
							want = helped(t, m, last, thread, true)
						}
						becomes(t, m, thread, want)
					}
				}
			}
		}
	}
}

func TestRoomWhereNothingIsToBeReplayed(t *testing.T) {
	for _, c := range samples.FairConfigs() {
		for _, thread := range samples.Below(c.Threads) {
			for turn, head := range heads(c, 0) {
				// The log is empty, or its first entry is not published yet.
				m := scene{thread: thread, step: 5, log: turn % c.Logs, batch: list{thread}, head: head, tail: head}.of(samples.BusyMachine(c, turn+2))
				becomes(t, m, thread, m)
				if turn < 3 {
					waits := scene{thread: thread, step: 5, batch: list{thread}, head: head, tail: head + 2}.of(samples.BusyMachine(c, turn+2))
					waits.Rings[0].Slots[head%c.Slots].Bit = head / c.Slots % 2
					becomes(t, waits, thread, waits)
				}
			}
		}
	}
}

func TestRoomAsksForNoFence(t *testing.T) {
	c := api.Config{Object: api.ObjectQueue, Replicas: 2, Logs: 2, Threads: 3, Slots: 8}
	for fence := range 4 {
		s := scene{thread: 1, step: 5, log: 1, batch: list{1}, head: 7, tail: 15, fence: fence, cursors: list{9, 8}}
		m := s.of(samples.BusyMachine(c, 3))
		becomes(t, m, 1, with(m, 1, func(x *api.Thread, r *api.Ring) { r.Head, x.Step = 8, 4 }))
		s.cursors = list{7, 8}
		m = s.of(samples.BusyMachine(c, 3))
		becomes(t, m, 1, helped(t, m, 0, 1, true))
	}
}

// reserved: m, in which that thread's batch has the places behind its log's tail, none of them published.
func reserved(m api.Machine, thread int) api.Machine {
	return with(m, thread, func(x *api.Thread, r *api.Ring) {
		r.Tail += len(x.Batch)
		x.At, x.Step = 0, 7
	})
}

func TestClaim(t *testing.T) {
	for _, c := range samples.FairConfigs() {
		for _, thread := range samples.Below(c.Threads) {
			for _, batch := range lengths(c) {
				for _, in := range fills(c) {
					for turn, head := range heads(c, in+len(batch)) {
						s := scene{thread: thread, step: 6, log: turn % c.Logs, batch: batch, seen: head + in, at: turn % (len(batch) + 1), head: head, tail: head + in}
						m := s.of(few(c)[(turn+in)%3])
						if in+len(batch) > c.Slots {
							becomes(t, m, thread, atStep(m, thread, 4))
						} else {
							becomes(t, m, thread, reserved(m, thread))
						}
					}
				}
			}
		}
	}
}

func TestClaimBehindAnotherOne(t *testing.T) {
	for _, c := range samples.FairConfigs() {
		for turn, m := range few(c) {
			for _, thread := range samples.Below(c.Threads) {
				for _, batch := range lengths(c) {
					s := scene{thread: thread, step: 6, log: turn % c.Logs, batch: batch, at: len(batch), head: 20, tail: 21}
					for _, seen := range []int{20, 22, 0, 19, 21 - c.Slots, 21 + c.Slots, 1048576} {
						s.seen = seen
						m := s.of(m)
						becomes(t, m, thread, atStep(m, thread, 4))
					}
				}
			}
		}
	}
}

func TestClaimOfALogThatIsFenced(t *testing.T) {
	for _, c := range samples.FairConfigs() {
		for turn, m := range few(c) {
			for _, thread := range samples.Below(c.Threads) {
				for fence := 1; fence <= c.Threads; fence++ {
					s := scene{thread: thread, step: 6, log: turn % c.Logs, batch: list{thread}, seen: 6, at: 1, head: 6, tail: 6, fence: fence}
					m := s.of(m)
					becomes(t, m, thread, atStep(m, thread, 4))
				}
			}
		}
	}
}

func TestClaimAtTheGreatestPlace(t *testing.T) {
	for _, c := range samples.FairConfigs() {
		for _, thread := range samples.Below(c.Threads) {
			for _, batch := range batches(c) {
				for beyond := range 2 {
					tail := 1048576 - len(batch) + beyond
					s := scene{thread: thread, step: 6, log: c.Logs - 1, batch: batch, seen: tail, head: tail - 1, tail: tail}
					m := s.of(samples.BusyMachine(c, 5))
					if beyond == 0 {
						becomes(t, m, thread, reserved(m, thread))
					} else {
						becomes(t, m, thread, atStep(m, thread, 4))
					}
					// There is room, so far as it is told ahead.
					m = atStep(m, thread, 4)
					becomes(t, m, thread, seen(m, thread, 6))
				}
			}
		}
	}
}

// published: m, in which that thread has published the next one of its batch.
func published(m api.Machine, thread int) api.Machine {
	ops := m.Threads
	return with(m, thread, func(x *api.Thread, r *api.Ring) {
		at, who := x.Seen+x.At, x.Batch[x.At]
		n := len(r.Slots)
		r.Slots[at%n] = api.Slot{Op: ops[who].Op, Thread: who, Bit: 1 - at/n%2}
		x.At++
		if x.At == len(x.Batch) {
			x.Step = 8
		}
	})
}

func TestPublish(t *testing.T) {
	for _, c := range samples.FairConfigs() {
		for _, thread := range samples.Below(c.Threads) {
			for which, batch := range batches(c) {
				for at := range batch {
					// Its places are the last ones of the log, or the first, and of two laps, or the greatest.
					for turn, head := range append(heads(c, c.Slots), c.Slots-len(batch)) {
						s := scene{thread: thread, step: 7, log: turn % c.Logs, batch: batch, seen: head, at: at, head: head, tail: head + c.Slots}
						if which%2 == 1 {
							s.seen = s.tail - len(batch)
						}
						m := s.of(few(c)[(turn+which)%3])
						place := (s.seen + at) % c.Slots
						m.Rings[s.log].Slots[place].Bit ^= turn % 2
						becomes(t, m, thread, published(m, thread))
					}
				}
			}
		}
	}
}

func TestPublishEachOperation(t *testing.T) {
	for _, c := range samples.FewConfigs() {
		for _, thread := range samples.Below(c.Threads) {
			for _, who := range samples.Below(c.Threads) {
				for _, o := range samples.Updates() {
					m := scene{thread: thread, step: 7, batch: list{who}, seen: 4, head: 3, tail: 5, fence: 1}.of(samples.BusyMachine(c, 9))
					m.Threads[who].Op = o
					becomes(t, m, thread, published(m, thread))
				}
			}
		}
	}
}

func TestPublishIsRefused(t *testing.T) {
	for _, c := range samples.FairConfigs() {
		for turn, m := range few(c) {
			for _, thread := range samples.Below(c.Threads) {
				for which, batch := range batches(c) {
					// Each of these machines with another batch of each length.
					if which%3 != turn {
						continue
					}
					k := len(batch)
					s := scene{thread: thread, step: 7, log: turn % c.Logs, batch: batch, seen: 5, at: k, head: 5, tail: 5 + k}
					// It has published all of them already.
					refuses(t, s.of(m), thread)
					// Its place is no more in the log, or not yet.
					for at := range k {
						s.at = at
						for _, seen := range []int{4 - at, 5 + k - at, 0, 6 + k, 5 + c.Slots, 1048576} {
							s.seen = seen
							refuses(t, s.of(m), thread)
						}
					}
					// It is to publish one that looks.
					s.seen, s.at = 5, k-1
					for _, o := range []api.Op{{Code: 2}, {Code: 2, Row: 3}, {Code: 3}} {
						looks := s.of(m)
						looks.Threads[batch[k-1]].Op = o
						refuses(t, looks, thread)
					}
				}
			}
		}
	}
}

func TestPublishAtAnEmptyLog(t *testing.T) {
	for _, c := range samples.FewConfigs() {
		for _, thread := range samples.Below(c.Threads) {
			for _, head := range heads(c, 0) {
				for _, seen := range []int{head, max(head-1, 0), 0, 1048576} {
					m := scene{thread: thread, step: 7, batch: list{0}, seen: seen, head: head, tail: head}.of(samples.BusyMachine(c, 9))
					refuses(t, m, thread)
				}
			}
		}
	}
}

// goesOn is what the chapter says of a step, in one place; false: it is refused.
func goesOn(m api.Machine, thread int) (api.Machine, bool) {
	m = samples.CopiedMachine(m)
	x := &m.Threads[thread]
	r, own, k := &m.Rings[x.Log], samples.ReplicaOf(m.Config, thread), len(x.Batch)
	one := func(replica int) (api.Machine, bool) {
		m, _, _ := replay.One(m, replica, x.Log)
		return m, true
	}
	switch {
	case k == 0 || x.Step < 4 || x.Step > 7:
		return api.Machine{}, false
	case x.Step == 4 && r.Fence > 0:
		return one(own)
	case x.Step == 4:
		return seen(m, thread, []int{6, 5}[over(r, k)]), true
	case x.Step == 6 && (over(r, k) > 0 || r.Fence > 0 || r.Tail != x.Seen || r.Tail+k > 1048576):
		return atStep(m, thread, 4), true
	case x.Step == 6:
		return reserved(m, thread), true
	case x.Step == 7:
		at := x.Seen + x.At
		if x.At >= k || at < r.Head || at >= r.Tail || m.Threads[x.Batch[x.At]].Op.Code > 1 {
			return api.Machine{}, false
		}
		return published(m, thread), true
	}
	last := len(m.Replicas) - 1
	if m.Replicas[0].Cursors[x.Log] <= m.Replicas[last].Cursors[x.Log] {
		last = 0
	}
	switch least := m.Replicas[last].Cursors[x.Log]; {
	case least > r.Head:
		r.Head, x.Step = least, 4
	case last == own || m.Replicas[last].Locks[x.Log] == 0:
		return one(last)
	}
	return m, true
}

// over: 1, if so many more are above what r has room for, else 0.
func over(r *api.Ring, k int) int {
	if r.Tail+k > r.Head+len(r.Slots) {
		return 1
	}
	return 0
}

// goes reports a fault, if there is one, of Step of that thread of m, whatever it comes to; the machine behind it, and was it not refused?
func goes(t *testing.T, m api.Machine, thread int) (api.Machine, bool) {
	t.Helper()
	want, is := goesOn(m, thread)
	if is {
		becomes(t, m, thread, want)
	} else {
		refuses(t, m, thread)
	}
	return want, is
}

func TestEachThreadOfEachMachine(t *testing.T) {
	done, refused := 0, 0
	for _, c := range samples.FairConfigs() {
		for turn := range 14 {
			for _, thread := range samples.Below(c.Threads) {
				for step := 4; step < 8; step++ {
					m := atStep(samples.BusyMachine(c, turn), thread, step)
					if turn%2 == 0 {
						m.Threads[thread].Seen = m.Rings[m.Threads[thread].Log].Tail
					}
					if _, is := goes(t, m, thread); is {
						done++
					} else {
						refused++
					}
				}
			}
		}
	}
	if done < 1000 || refused < 1000 {
		t.Errorf("%d done, %d refused", done, refused)
	}
}

// inOrder reports a fault, if a log's places and the replicas in it are not in their order.
func inOrder(t *testing.T, m api.Machine, log int) {
	t.Helper()
	r := m.Rings[log]
	for _, x := range m.Replicas {
		if at := x.Cursors[log]; at < r.Head || at > r.Tail || r.Tail > r.Head+len(r.Slots) {
			t.Fatalf("T4: %d from %d to %d", at, r.Head, r.Tail)
		}
	}
}

func TestOneThreadTillItsBatchIsPublished(t *testing.T) {
	for _, c := range samples.FairConfigs() {
		for _, thread := range samples.Below(c.Threads) {
			for which, batch := range batches(c) {
				// The log is full, and nobody has replayed it: the thread makes room by itself.
				s := scene{thread: thread, step: 4, log: which % c.Logs, batch: batch, head: 2 * which, tail: 2*which + c.Slots}
				m := s.of(samples.BusyMachine(c, which))
				for count := 0; m.Threads[thread].Step != 8; count++ {
					if count > 100 {
						t.Fatalf("P19.1: thread %d comes to no end: %+v", thread, m)
					}
					m, _ = goes(t, m, thread)
					inOrder(t, m, s.log)
				}
				for i, who := range batch {
					at := s.tail + i
					want := api.Slot{Op: m.Threads[who].Op, Thread: who, Bit: 1 - at/c.Slots%2}
					if got := m.Rings[s.log].Slots[at%c.Slots]; got != want {
						t.Errorf("P19.1: entry %d is %+v; want %+v", at, got, want)
					}
				}
				refuses(t, m, thread)
			}
		}
	}
}

func TestSeveralThreadsByTurns(t *testing.T) {
	for _, c := range samples.FewConfigs() {
		m := scene{batch: list{0}, step: 4}.of(samples.FreshMachine(c))
		for i := range m.Threads {
			m.Threads[i].Step, m.Threads[i].Log, m.Threads[i].Batch = 4, i%2%c.Logs, batches(c)[i]
		}
		published := 0
		for turn := range 600 {
			thread := (turn*turn/7 + turn/3) % c.Threads
			m, _ = goes(t, m, thread)
			x := &m.Threads[thread]
			inOrder(t, m, x.Log)
			if x.Step == 8 {
				// The next batch, of the other log, if there is one.
				published += len(x.Batch)
				x.Step, x.Log, x.Batch, x.At = 4, (x.Log+1)%c.Logs, batches(c)[turn%(3*c.Threads)], 0
			}
		}
		tails := 0
		for _, r := range m.Rings {
			tails += r.Tail
		}
		for _, x := range m.Threads {
			if x.Step == 7 {
				tails -= len(x.Batch)
			}
		}
		if tails != published || published < 10*c.Threads {
			t.Errorf("P19.1: of %+v: %d entries, %d published", c, tails, published)
		}
	}
}

func TestWhatIsLeftMayBe(t *testing.T) {
	for _, c := range samples.FairConfigs() {
		for turn := range 10 {
			for _, thread := range samples.Below(c.Threads) {
				for step := 4; step < 8; step++ {
					m := atStep(samples.BusyMachine(c, turn), thread, step)
					if got, e := Step(m, thread); e == api.OK && !start.May(got) {
						t.Errorf("P19.1: of thread %d: %+v may not be", thread, got)
					}
				}
			}
		}
	}
}

// posed: machines of c in which that thread is at each of the four steps, and is not refused.
func posed(c api.Config, thread int) []api.Machine {
	var all []api.Machine
	for step := 4; step < 8; step++ {
		for turn, m := range few(c) {
			s := scene{thread: thread, step: step, log: turn % c.Logs, batch: list{c.Threads - 1}, seen: 3, head: 2, tail: 3}
			if step == 7 {
				s.tail++
			}
			all = append(all, s.of(m))
			s.fence, s.head = 1, 3
			all = append(all, s.of(m))
		}
	}
	return all
}

func TestNoBatch(t *testing.T) {
	for _, c := range samples.FairConfigs() {
		for _, thread := range samples.Below(c.Threads) {
			for i, m := range posed(c, thread) {
				empty := []list{nil, {}}[i%2]
				refuses(t, with(m, thread, func(x *api.Thread, r *api.Ring) { x.Batch, x.At = empty, 0 }), thread)
			}
		}
	}
}

func TestEachOtherStep(t *testing.T) {
	for _, c := range samples.FairConfigs() {
		for _, thread := range samples.Below(c.Threads) {
			for step := range 20 {
				if step >= 4 && step <= 7 {
					continue
				}
				// One in which it may publish, and one in which it may load, make room or claim.
				all := posed(c, thread)
				for _, m := range []api.Machine{all[18+step%6], all[step%18]} {
					refuses(t, samples.AllAtStep(m, step), thread)
					// All others are at one of these steps.
					refuses(t, atStep(samples.AllAtStep(m, 4+step%4), thread, step), thread)
				}
			}
		}
	}
}

func TestNoSuchThread(t *testing.T) {
	for _, c := range samples.FairConfigs() {
		for step := 4; step < 8; step++ {
			m := samples.AllAtStep(posed(c, 0)[3*step], step)
			for _, thread := range samples.Outside(0, c.Threads-1) {
				refuses(t, m, thread)
			}
		}
	}
}

func TestMachinesThatMayNotBe(t *testing.T) {
	for turn, c := range samples.FewConfigs() {
		for i, m := range posed(c, 0) {
			if i%8 != turn {
				continue
			}
			if fault := samples.WrongMachines(m, api.ErrClaimForm, stepping(0)); fault != "" {
				t.Errorf("P19.1: %s: of %+v", fault, m)
			}
		}
	}
}

func TestEachThreadOfMachinesThatMayNotBe(t *testing.T) {
	c := api.Config{Object: api.ObjectQueue, Replicas: 2, Logs: 2, Threads: 2, Slots: 4}
	for thread, call := range calls(c) {
		for step := 4; step < 8; step++ {
			if fault := samples.WrongMachines(posed(c, thread)[6*(step-4)+2], api.ErrClaimForm, call); fault != "" {
				t.Errorf("P19.1: of thread %d: %s", thread, fault)
			}
		}
	}
}

func TestSeveralThingsWrong(t *testing.T) {
	for _, m := range []api.Machine{{}, {Config: samples.FewConfigs()[5]}, {Threads: []api.Thread{{Step: 4, Batch: list{0}}}}} {
		for _, thread := range samples.Around(4) {
			refuses(t, m, thread)
		}
	}
	for _, c := range samples.FewConfigs() {
		for _, thread := range samples.Below(c.Threads) {
			for _, m := range posed(c, thread) {
				wrong := samples.MachineWith(m, func(m *api.Machine) { m.History = []api.Event{{Thread: c.Threads}} })
				refuses(t, wrong, thread)
				refuses(t, atStep(wrong, 0, 8), thread)
				refuses(t, wrong, -1)
				refuses(t, wrong, math.MaxInt)
				refuses(t, atStep(m, thread, 20), c.Threads)
				none := with(m, thread, func(x *api.Thread, r *api.Ring) { x.Batch, x.At, x.Step = nil, 0, 8 })
				refuses(t, none, thread)
				refuses(t, none, c.Threads)
			}
			// It has published all, its place is outside, and whom it has looks.
			m := scene{thread: thread, step: 7, batch: list{thread}, seen: 9, at: 1, head: 2, tail: 3}.of(samples.BusyMachine(c, 7))
			m.Threads[thread].Op = api.Op{Code: 3}
			refuses(t, m, thread)
			m.Threads[thread].At = 0
			refuses(t, m, thread)
		}
	}
}

func TestMemoryOfItsOwn(t *testing.T) {
	for _, c := range samples.FewConfigs() {
		for _, thread := range samples.Below(c.Threads) {
			waits := scene{thread: thread, step: 5, batch: list{thread}, seen: 3, head: 2, tail: 2}.of(samples.FullMachine(c))
			freed := scene{thread: thread, step: 5, batch: list{thread}, seen: 3, head: 2, tail: 4, cursors: list{3, 3}}.of(samples.FullMachine(c))
			for _, m := range append(posed(c, thread), waits, freed) {
				if _, e := Step(m, thread); e != api.OK {
					t.Errorf("P19.1: of thread %d: %d: of %+v", thread, e, m)
				}
				if fault := stepping(thread).Sharing(m); fault != "" {
					t.Errorf("P19.1: of thread %d: %s: of %+v", thread, fault, m)
				}
			}
		}
	}
}

func TestAnswersHangOnNothingElse(t *testing.T) {
	c := api.Config{Object: api.ObjectQueue, Replicas: 2, Logs: 2, Threads: 4, Slots: 16}
	var wants []api.Machine
	all := posed(c, 3)
	for _, m := range all {
		want, _ := goesOn(m, 3)
		wants = append(wants, want)
	}
	old := samples.CopiedMachine(all[0])
	faults := samples.Together(func() string {
		for turn := range 50 {
			for i, m := range all {
				// The machines themselves, with no copy between, are handed in by all.
				if got, e := Step(m, 3); e != api.OK || !samples.SameMachine(got, wants[i]) {
					return "another machine"
				}
			}
			m := all[turn%len(all)]
			for _, fault := range []string{stepping(3).Answer(m, wants[turn%len(all)], true), stepping(4).Refusal(m, api.ErrClaimForm)} {
				if fault != "" {
					return fault
				}
			}
		}
		return ""
	})
	for _, fault := range faults {
		t.Errorf("R5: %s", fault)
	}
	if !samples.SameMachine(all[0], old) {
		t.Errorf("R4: what was given is changed: %+v", all[0])
	}
}
