package replay

import (
	"math"
	"slices"
	"testing"

	"chorus/api"
	"chorus/object"
	"chorus/samples"
	"chorus/start"
)

// place is where an entry is replayed.
type place = samples.Place

// list is a row of numbers.
type list = []int

// replaying: One of this place, as a call under test.
func replaying(p place) samples.MachineCall {
	return func(m api.Machine) (api.Machine, bool, api.Errno) { return One(m, p.Replica, p.Log) }
}

// calls: One of each place that a machine of c has.
func calls(c api.Config) []samples.MachineCall {
	var all []samples.MachineCall
	for _, p := range samples.Places(c) {
		all = append(all, replaying(p))
	}
	return all
}

// next: the entry that the place's replica comes to in its log; is there one?
func next(m api.Machine, p place) (api.Slot, bool) {
	r, at := m.Rings[p.Log], m.Replicas[p.Replica].Cursors[p.Log]
	s := r.Slots[at%len(r.Slots)]
	lap := at / len(r.Slots)
	return s, at < r.Tail && s.Bit != lap%2
}

// replayed: m, but that the place's replica has done this entry.
func replayed(m api.Machine, p place, s api.Slot) api.Machine {
	return samples.MachineWith(m, func(m *api.Machine) {
		r := &m.Replicas[p.Replica]
		var answer int
		r.State, answer, _ = object.Apply(m.Config.Object, r.State, s.Op)
		r.Cursors[p.Log]++
		if slices.Contains(samples.AtReplica(m.Config, p.Replica), s.Thread) {
			m.Threads[s.Thread].Answer, m.Threads[s.Thread].Ready = answer, true
		}
	})
}

// replays reports a fault, if there is one, of One at that place of m, that should do this entry.
func replays(t *testing.T, m api.Machine, p place, s api.Slot) {
	t.Helper()
	if fault := replaying(p).Answer(m, replayed(m, p, s), true); fault != "" {
		got, is, e := One(m, p.Replica, p.Log)
		t.Errorf("P18.1: at %+v: %s: %+v, %t, %d; want entry %+v done: of %+v", p, fault, got, is, e, s, m)
	}
}

// rests reports a fault, if there is one, of One at that place of m, where there should be no entry.
func rests(t *testing.T, m api.Machine, p place) {
	t.Helper()
	if fault := replaying(p).Answer(m, m, false); fault != "" {
		got, is, e := One(m, p.Replica, p.Log)
		t.Errorf("P18.1: at %+v: %s: %+v, %t, %d; want no entry: of %+v", p, fault, got, is, e, m)
	}
}

// goesOn reports a fault, if there is one, of One at that place of m, whatever there is; was there an entry?
func goesOn(t *testing.T, m api.Machine, p place) bool {
	t.Helper()
	s, is := next(m, p)
	if is {
		replays(t, m, p, s)
	} else {
		rests(t, m, p)
	}
	return is
}

// refuses reports a fault, if there is one, of One at that place of m, that should be refused.
func refuses(t *testing.T, m api.Machine, p place) {
	t.Helper()
	if fault := replaying(p).Refusal(m, api.ErrReplayForm); fault != "" {
		t.Errorf("P18.1: at %+v: %s: of %+v", p, fault, m)
	}
}

// withOne: m, in which the place's replica comes to entry at, that is this operation, this thread's.
func withOne(m api.Machine, p place, at int, o api.Op, thread int) api.Machine {
	m = samples.Laid(m, p, at, at, at+1, at)
	s := &m.Rings[p.Log].Slots[at%m.Config.Slots]
	s.Op, s.Thread = o, thread
	return m
}

// some: machines of c, new ones and ones in the midst of things.
func some(c api.Config) []api.Machine {
	return append(samples.FairMachines(c), samples.BusyMachine(c, 3), samples.BusyMachine(c, 10), samples.BusyMachine(c, 14))
}

// few: a new machine of c, a full one, and one in the midst of things.
func few(c api.Config) []api.Machine {
	return []api.Machine{samples.FreshMachine(c), samples.FullMachine(c), samples.BusyMachine(c, 6)}
}

// entry is one written out: whose it is, what it is, and what it leaves and tells.
type entry struct {
	thread int
	op     api.Op
	row    list
	answer int
}

// entries: some of each object, one behind the other, from no numbers on.
func entries() [][]entry {
	return [][]entry{
		api.ObjectStore: {
			{0, api.Op{Code: 0, Row: 1, Arg: 9}, list{9}, -1},
			{2, api.Op{Code: 0, Row: 1, Arg: 0}, list{0}, 9},
			{1, api.Op{Code: 1, Row: 1}, nil, 0},
			{0, api.Op{Code: 1, Row: 1, Arg: 255}, nil, -1},
			{2, api.Op{Code: 0, Row: 3, Arg: 255}, list{255}, -1},
		},
		api.ObjectFds: {
			{0, api.Op{Code: 0, Row: 2, Arg: 7}, list{0}, 0},
			{0, api.Op{Code: 0, Row: 2}, list{0, 1}, 1},
			{1, api.Op{Code: 1, Row: 2}, list{1}, 1},
			{2, api.Op{Code: 1, Row: 2, Arg: 255}, list{1}, 0},
			{2, api.Op{Code: 0, Row: 2}, list{0, 1}, 0},
		},
		api.ObjectQueue: {
			{1, api.Op{Code: 0, Row: 0, Arg: 5}, list{5}, 1},
			{2, api.Op{Code: 0, Row: 0, Arg: 255}, list{5, 255}, 1},
			{0, api.Op{Code: 1, Row: 0}, list{255}, 5},
			{1, api.Op{Code: 1, Row: 0}, nil, 255},
			{2, api.Op{Code: 1, Row: 0, Arg: 9}, nil, -1},
		},
	}
}

func TestWrittenOut(t *testing.T) {
	for kind, all := range entries() {
		m := samples.FreshMachine(api.Config{Object: kind, Replicas: 2, Logs: 2, Threads: 3, Slots: 8})
		m.Rings[1].Tail = len(all) + 1
		for i, x := range all {
			m.Rings[1].Slots[i] = api.Slot{Op: x.op, Thread: x.thread, Bit: 1}
		}
		for replica := range 2 {
			for i, x := range all {
				got, is, e := One(m, replica, 1)
				if e != api.OK || !is {
					t.Fatalf("P18.1: object %d, replica %d, entry %d: %t, %d", kind, replica, i, is, e)
				}
				r := got.Replicas[replica]
				if !slices.Equal(r.State.Rows[x.op.Row], x.row) || !slices.Equal(r.Cursors, list{0, i + 1}) {
					t.Errorf("P18.1: object %d, replica %d, entry %d: %+v; want %+v", kind, replica, i, r, x)
				}
				served := got.Threads[x.thread]
				if x.thread%2 == replica && (served.Answer != x.answer || !served.Ready) {
					t.Errorf("P18.1: object %d, replica %d, entry %d: %+v; want %+v", kind, replica, i, served, x)
				}
				m = got
			}
			rests(t, m, place{Replica: replica, Log: 1})
			rests(t, m, place{Replica: replica, Log: 0})
		}
	}
}

func TestEachPlaceOfEachMachine(t *testing.T) {
	done, none := 0, 0
	for _, c := range samples.FairConfigs() {
		for _, m := range some(c) {
			for _, p := range samples.Places(c) {
				if goesOn(t, m, p) {
					done++
				} else {
					none++
				}
			}
		}
	}
	if done < 100 || none < 100 {
		t.Errorf("%d entries, %d times none", done, none)
	}
}

func TestTillNoneIsLeft(t *testing.T) {
	for _, c := range samples.FairConfigs() {
		for turn, m := range few(c) {
			for _, p := range samples.Places(c) {
				head := 7*turn + 3
				tail := head + c.Slots
				m := samples.Laid(m, p, head, head, tail, samples.Between(head, tail)...)
				for at := head; at < tail; at++ {
					replays(t, m, p, m.Rings[p.Log].Slots[at%c.Slots])
					m, _, _ = One(m, p.Replica, p.Log)
				}
				rests(t, m, p)
			}
		}
	}
}

func TestEachPlaceOfARingInSomeLaps(t *testing.T) {
	for _, c := range samples.FairConfigs() {
		m := samples.BusyMachine(c, 6)
		for _, p := range samples.Places(c) {
			// The last two laps end at the greatest place that there is.
			for _, from := range []int{0, 1048576 - 2*c.Slots} {
				for at := from; at < from+2*c.Slots; at++ {
					one := samples.Laid(m, p, at, at, at+1, at)
					replays(t, one, p, one.Rings[p.Log].Slots[at%c.Slots])
					rests(t, samples.Laid(m, p, at, at, at+1), p)
					rests(t, samples.Laid(m, p, at, at, at, at), p)
				}
			}
		}
	}
}

func TestNoEntryBehindTheGreatestPlace(t *testing.T) {
	for _, c := range samples.FairConfigs() {
		for _, p := range samples.Places(c) {
			head := 1048576 - c.Slots
			m := samples.Laid(samples.BusyMachine(c, 5), p, head, 1048575, 1048576, samples.Between(head, 1048576)...)
			replays(t, m, p, m.Rings[p.Log].Slots[c.Slots-1])
			m, _, _ = One(m, p.Replica, p.Log)
			if at := m.Replicas[p.Replica].Cursors[p.Log]; at != 1048576 {
				t.Errorf("P18.1: at %d", at)
			}
			rests(t, m, p)
		}
	}
}

func TestReservedAndNotPublished(t *testing.T) {
	for _, c := range samples.FairConfigs() {
		for turn, m := range few(c) {
			for _, p := range samples.Places(c) {
				head := 5 * turn
				tail := head + c.Slots
				// None is, and then all but the one that the replica comes to.
				for at := head; at < tail; at++ {
					rests(t, samples.Laid(m, p, head, at, tail), p)
					others := slices.DeleteFunc(samples.Between(head, tail), func(x int) bool { return x == at })
					rests(t, samples.Laid(m, p, head, at, tail, others...), p)
					alone := samples.Laid(m, p, head, at, tail, at)
					replays(t, alone, p, alone.Rings[p.Log].Slots[at%c.Slots])
				}
			}
		}
	}
}

func TestAllOperationsOfAllStates(t *testing.T) {
	for _, c := range samples.FewConfigs() {
		for i, s := range append(samples.FewStates(c.Object), samples.FairStates(c.Object)[4:8]...) {
			for _, p := range samples.Places(c) {
				for at, o := range samples.Updates() {
					m := withOne(samples.BusyMachine(c, i), p, at, o, at%c.Threads)
					m.Replicas[p.Replica].State = s
					replays(t, m, p, api.Slot{Op: o, Thread: at % c.Threads})
				}
			}
		}
	}
}

func TestEachThreadsEntry(t *testing.T) {
	for _, c := range samples.FairConfigs() {
		for turn, m := range few(c) {
			for _, p := range samples.Places(c) {
				for _, thread := range samples.Below(c.Threads) {
					for _, o := range []api.Op{{Code: 0, Row: 2, Arg: 3}, {Code: 1, Row: turn, Arg: 1}} {
						m := withOne(m, p, 9+thread, o, thread)
						replays(t, m, p, api.Slot{Op: o, Thread: thread})
						got, _, _ := One(m, p.Replica, p.Log)
						served := samples.ReplicaOf(c, thread) == p.Replica
						// Of another replica's thread, nothing turns.
						if !served && !samples.SameMachine(api.Machine{Threads: got.Threads}, api.Machine{Threads: m.Threads}) {
							t.Errorf("P18.1: at %+v, thread %d: %+v", p, thread, got.Threads)
						}
						if served && !got.Threads[thread].Ready {
							t.Errorf("P18.1: at %+v, thread %d is not ready", p, thread)
						}
					}
				}
			}
		}
	}
}

func TestWhateverAnswerAndReadyWere(t *testing.T) {
	all := []api.Thread{
		{Answer: -1},
		{Answer: 1, Ready: true, Posted: true},
		{Step: 10, Op: api.Op{Code: 2, Row: 1}, Answer: math.MinInt, Posted: true},
		{Step: 8, Op: api.Op{Code: 1}, Answer: math.MaxInt, Ready: true, Seen: 7},
	}
	for _, c := range samples.FewConfigs() {
		for _, p := range samples.Places(c) {
			for _, thread := range samples.Below(c.Threads) {
				m := withOne(samples.BusyMachine(c, 4), p, 3, api.Op{Row: 1, Arg: 2}, thread)
				for _, m := range samples.EachAs(m, all) {
					if got, is, e := One(m, p.Replica, p.Log); e != api.OK || !is || !samples.SameMachine(got, replayed(m, p, api.Slot{Op: api.Op{Row: 1, Arg: 2}, Thread: thread})) {
						t.Fatalf("P18.1: at %+v: %+v, %t, %d: of %+v", p, got, is, e, m)
					}
				}
			}
		}
	}
}

func TestNeitherLockNorFenceIsAskedFor(t *testing.T) {
	c := api.Config{Object: api.ObjectStore, Replicas: 2, Logs: 2, Threads: 3, Slots: 8}
	for _, p := range samples.Places(c) {
		for holder := range 4 {
			m := withOne(samples.FreshMachine(c), p, 5, api.Op{Arg: 8}, 1)
			for log := range 2 {
				m.Replicas[0].Locks[log], m.Replicas[1].Locks[log], m.Rings[log].Fence = holder, 3-holder, holder
			}
			replays(t, m, p, api.Slot{Op: api.Op{Arg: 8}, Thread: 1})
		}
	}
}

func TestEachReplicaComesToTheSame(t *testing.T) {
	for kind := range 3 {
		c := api.Config{Object: kind, Replicas: 2, Logs: 2, Threads: 4, Slots: 16}
		m := samples.FreshMachine(c)
		for log := range 2 {
			m.Rings[log] = samples.Laid(m, place{Log: log}, 0, 0, 16, samples.Between(0, 16)...).Rings[log]
		}
		for turn := range 100 {
			// One replica is behind the other, by turns; both go through the two logs side by side.
			for log := range 2 {
				m, _, _ = One(m, turn*turn/3%2, log)
			}
			for replica, r := range m.Replicas {
				if r.Cursors[0] != r.Cursors[1] {
					t.Fatalf("P18.1: replica %d is at %v", replica, r.Cursors)
				}
			}
		}
		first, second := m.Replicas[0], m.Replicas[1]
		if first.Cursors[0] != 16 || second.Cursors[0] != 16 || !samples.Same(first.State, second.State) {
			t.Errorf("P18.1: object %d: %+v, %+v", kind, first, second)
		}
		for thread, x := range m.Threads {
			if !x.Ready {
				t.Errorf("P18.1: object %d: thread %d has no answer", kind, thread)
			}
		}
	}
}

func TestWhatIsLeftMayBe(t *testing.T) {
	for _, c := range samples.FairConfigs() {
		for _, m := range some(c) {
			for _, p := range samples.Places(c) {
				if got, _, _ := One(m, p.Replica, p.Log); !start.May(got) {
					t.Errorf("P18.1: at %+v: %+v may not be", p, got)
				}
			}
		}
	}
}

func TestNoSuchPlace(t *testing.T) {
	for _, c := range samples.FairConfigs() {
		for _, m := range []api.Machine{samples.FreshMachine(c), withOne(samples.BusyMachine(c, 5), place{}, 6, api.Op{Arg: 1}, 0)} {
			for _, p := range samples.NoPlaces(c) {
				refuses(t, m, p)
			}
		}
	}
}

func TestMachinesThatMayNotBe(t *testing.T) {
	for turn, c := range samples.FewConfigs() {
		for _, m := range few(c) {
			m := withOne(m, place{}, turn+4, api.Op{Row: 3, Arg: 1}, 0)
			if fault := samples.WrongMachines(m, api.ErrReplayForm, calls(c)...); fault != "" {
				t.Errorf("P18.1: %s: of %+v", fault, m)
			}
		}
	}
}

func TestEachPlaceOfMachinesThatMayNotBe(t *testing.T) {
	c := api.Config{Object: api.ObjectQueue, Replicas: 2, Logs: 2, Threads: 2, Slots: 4}
	m := samples.BusyMachine(c, 2)
	for _, p := range samples.Places(c) {
		if fault := samples.WrongMachines(withOne(m, p, 3, api.Op{Arg: 1}, 1), api.ErrReplayForm, replaying(p)); fault != "" {
			t.Errorf("P18.1: at %+v: %s", p, fault)
		}
	}
}

func TestSeveralThingsWrong(t *testing.T) {
	for _, m := range []api.Machine{{}, {Config: samples.FewConfigs()[5]}, {Replicas: []api.Replica{{Cursors: []int{0}}}, Rings: []api.Ring{{Tail: 1}}}} {
		for _, replica := range samples.Around(2) {
			for _, log := range samples.Around(2) {
				refuses(t, m, place{Replica: replica, Log: log})
			}
		}
	}
	for _, c := range samples.FewConfigs() {
		wrong := samples.MachineWith(samples.FullMachine(c), func(m *api.Machine) { m.History[0].Thread = -1 })
		for _, p := range samples.NoPlaces(c) {
			refuses(t, wrong, p)
		}
		for _, p := range samples.Places(c) {
			refuses(t, wrong, p)
			// Its cursor is beyond the tail, or ahead of the head, or there is none.
			refuses(t, samples.Laid(samples.BusyMachine(c, 4), p, 3, 5, 4, samples.Between(3, 5)...), p)
			refuses(t, samples.Laid(samples.BusyMachine(c, 4), p, 3, 2, 4, samples.Between(2, 5)...), p)
			refuses(t, samples.MachineWith(samples.BusyMachine(c, 4), func(m *api.Machine) { m.Replicas[p.Replica].Cursors = nil }), p)
		}
	}
}

func TestMemoryOfItsOwn(t *testing.T) {
	for _, c := range samples.FewConfigs() {
		for turn, m := range some(c) {
			for _, p := range samples.Places(c) {
				for _, m := range []api.Machine{m, withOne(m, p, turn, api.Op{Code: turn % 2, Row: turn % 4, Arg: 3}, turn%c.Threads)} {
					if fault := replaying(p).Sharing(m); fault != "" {
						t.Errorf("P18.1: at %+v: %s: of %+v", p, fault, m)
					}
				}
			}
		}
	}
}

func TestAnswersHangOnNothingElse(t *testing.T) {
	c := api.Config{Object: api.ObjectQueue, Replicas: 2, Logs: 2, Threads: 4, Slots: 16}
	p := place{Replica: 1, Log: 1}
	s := api.Slot{Op: api.Op{Row: 2, Arg: 77}, Thread: 3}
	one, none := withOne(samples.BusyMachine(c, 8), p, 17, s.Op, s.Thread), samples.Laid(samples.BusyMachine(c, 8), p, 9, 11, 20, 10, 12)
	behind, old := replayed(one, p, s), samples.CopiedMachine(one)
	faults := samples.Together(func() string {
		for range 100 {
			for _, fault := range []string{
				replaying(p).Answer(one, behind, true), replaying(p).Answer(none, none, false),
				replaying(p).Answer(behind, behind, false), replaying(place{Replica: 1, Log: 2}).Refusal(one, api.ErrReplayForm),
			} {
				if fault != "" {
					return fault
				}
			}
			// The machines themselves, with no copy between, are handed in by all.
			if m, is, e := One(one, 1, 1); e != api.OK || !is || !samples.SameMachine(m, behind) {
				return "an entry"
			}
			if m, is, e := One(none, 1, 1); e != api.OK || is || !samples.SameMachine(m, none) {
				return "no entry"
			}
		}
		return ""
	})
	for _, fault := range faults {
		t.Errorf("R5: %s", fault)
	}
	if !samples.SameMachine(one, old) {
		t.Errorf("R4: what was given is changed: %+v", one)
	}
}
