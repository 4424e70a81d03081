package samples

import (
	"slices"
	"strconv"

	"chorus/api"
)

// Turn: one thing of a machine that is made another, and its name.
type Turn struct {
	Name string
	Do   func(m *api.Machine)
}

// turns: some of them, gathered one by one.
type turns []Turn

// add: one more.
func (all *turns) add(name string, do func(m *api.Machine)) {
	*all = append(*all, Turn{Name: name, Do: do})
}

// numbers: one more for each of these.
func (all *turns) numbers(name string, xs []int, do func(m *api.Machine, x int)) {
	for _, x := range xs {
		all.add(name+" "+strconv.Itoa(x), func(m *api.Machine) { do(m, x) })
	}
}

// ops: one more for each operation that may not be.
func (all *turns) ops(name string, do func(m *api.Machine, o api.Op)) {
	for _, o := range WrongOps() {
		all.add(name+" "+listText([]int{o.Code, o.Row, o.Arg}), func(m *api.Machine) { do(m, o) })
	}
}

// WrongTurns: what makes m, that may be, a machine that may not; in each of them one thing is another, all else as it may be.
func WrongTurns(m api.Machine) []Turn {
	var all turns
	all.configs(m)
	for i := range m.Rings {
		all.ringPlaces(m, i)
		all.ringSlots(m, i)
	}
	for i := range m.Replicas {
		all.replicaStates(m, i)
		all.replicaCursors(m, i)
		all.replicaLocks(m, i)
	}
	for i := range m.Threads {
		all.threadNumbers(m, i)
		all.threadBatch(m, i)
		all.threadTails(m, i)
	}
	all.counts()
	all.history(m)
	return all
}

// configs: Configs that may not be, and those that may, but tell of more or fewer than m has.
func (all *turns) configs(m api.Machine) {
	others := slices.DeleteFunc(FairConfigs(), func(c api.Config) bool { return unlikeCounts(c, m.Config) != 1 })
	for _, c := range append(WrongConfigs(m.Config), others...) {
		all.add("Config "+listText([]int{c.Object, c.Replicas, c.Logs, c.Threads, c.Slots}), func(m *api.Machine) { m.Config = c })
	}
}

// unlikeCounts: how many counts of these Configs are not the same (0, if they are of unlike objects).
func unlikeCounts(c, d api.Config) int {
	count := 0
	for _, x := range [][2]int{{c.Replicas, d.Replicas}, {c.Logs, d.Logs}, {c.Threads, d.Threads}, {c.Slots, d.Slots}} {
		if x[0] != x[1] && c.Object == d.Object {
			count++
		}
	}
	return count
}

// ringPlaces: places and fences of a ring that may not be. (All cursors are at its Head, so that they are not what is wrong.)
func (all *turns) ringPlaces(m api.Machine, ring int) {
	name := "Rings " + strconv.Itoa(ring)
	for _, r := range wrongPlaces(m.Rings[ring]) {
		all.add(name+" from "+strconv.Itoa(r.Head)+" to "+strconv.Itoa(r.Tail), func(m *api.Machine) { setRing(m, ring, r) })
	}
	all.numbers(name+" Fence", Outside(0, m.Config.Threads), func(m *api.Machine, x int) { m.Rings[ring].Fence = x })
}

// setRing: that ring is r, all cursors in it at its Head.
func setRing(m *api.Machine, ring int, r api.Ring) {
	m.Rings[ring] = CopiedRing(r)
	for i := range m.Replicas {
		m.Replicas[i].Cursors[ring] = r.Head
	}
}

// ringSlots: one thing of a slot that may not be, and as many slots as there are not.
func (all *turns) ringSlots(m api.Machine, ring int) {
	name := "Rings " + strconv.Itoa(ring) + " Slots"
	for i := range m.Rings[ring].Slots {
		at := name + " " + strconv.Itoa(i)
		all.numbers(at+" Thread", Outside(0, m.Config.Threads-1), func(m *api.Machine, x int) { m.Rings[ring].Slots[i].Thread = x })
		all.numbers(at+" Bit", Outside(0, 1), func(m *api.Machine, x int) { m.Rings[ring].Slots[i].Bit = x })
		for _, o := range NoUpdates() {
			all.add(at+" Op "+listText([]int{o.Code, o.Row, o.Arg}), func(m *api.Machine) { m.Rings[ring].Slots[i].Op = o })
		}
	}
	for _, count := range []int{0, 1, 2, 3, 4, 5, 7, 8, 9, 15, 16, 17, 32} {
		if count != m.Config.Slots {
			all.add(name+" of "+strconv.Itoa(count), func(m *api.Machine) { setSlots(m, ring, count) })
		}
	}
}

// setSlots: that ring has so many slots; if there are fewer than entries, it has none of these.
func setSlots(m *api.Machine, ring, count int) {
	r := m.Rings[ring]
	r.Slots = slices.Repeat(r.Slots[:1], count)
	if r.Tail > r.Head+count {
		r.Tail = r.Head
		setRing(m, ring, r)
	}
	m.Rings[ring] = r
}

// replicaStates: states that are not the object's.
func (all *turns) replicaStates(m api.Machine, replica int) {
	for _, row := range WrongRows(m.Config.Object) {
		for i := range m.Replicas[replica].State.Rows {
			all.add("Replicas "+strconv.Itoa(replica)+" State "+strconv.Itoa(i)+" "+listText(row), func(m *api.Machine) { m.Replicas[replica].State.Rows[i] = slices.Clone(row) })
		}
	}
}

// replicaCursors: cursors that are not in their ring, and as many as there are not.
func (all *turns) replicaCursors(m api.Machine, replica int) {
	name := "Replicas " + strconv.Itoa(replica) + " Cursors"
	for i, r := range m.Rings {
		all.numbers(name+" "+strconv.Itoa(i), Outside(r.Head, r.Tail), func(m *api.Machine, x int) { m.Replicas[replica].Cursors[i] = x })
	}
	cursors := func(m *api.Machine) *[]int { return &m.Replicas[replica].Cursors }
	all.lengths(name, m.Config.Logs, cursors, m.Rings[0].Head)
}

// replicaLocks: locks that nobody may hold, and as many as there are not.
func (all *turns) replicaLocks(m api.Machine, replica int) {
	name := "Replicas " + strconv.Itoa(replica) + " Locks"
	for i := range m.Rings {
		all.numbers(name+" "+strconv.Itoa(i), Outside(0, m.Config.Threads), func(m *api.Machine, x int) { m.Replicas[replica].Locks[i] = x })
	}
	locks := func(m *api.Machine) *[]int { return &m.Replicas[replica].Locks }
	all.lengths(name, m.Config.Logs, locks, 0)
}

// lengths: a list that must have so many has one more (an x), one fewer, none at all.
func (all *turns) lengths(name string, count int, list func(m *api.Machine) *[]int, x int) {
	all.add(name+", one more", func(m *api.Machine) { *list(m) = append(*list(m), x) })
	all.add(name+", one fewer", func(m *api.Machine) { *list(m) = (*list(m))[:count-1] })
	all.add(name+", none", func(m *api.Machine) { *list(m) = nil })
}

// threadNumbers: numbers and operations of a thread that may not be.
func (all *turns) threadNumbers(m api.Machine, thread int) {
	name := "Threads " + strconv.Itoa(thread)
	all.numbers(name+" Step", Outside(0, 19), func(m *api.Machine, x int) { m.Threads[thread].Step = x })
	all.numbers(name+" Log", Outside(0, m.Config.Logs-1), func(m *api.Machine, x int) { m.Threads[thread].Log = x })
	all.numbers(name+" Seen", Outside(0, 1048576), func(m *api.Machine, x int) { m.Threads[thread].Seen = x })
	all.numbers(name+" At", Outside(0, len(m.Threads[thread].Batch)), func(m *api.Machine, x int) { m.Threads[thread].At = x })
	all.ops(name+" Op", func(m *api.Machine, o api.Op) { m.Threads[thread].Op = o })
}

// threadBatch: a thread in a batch that there is not, at each place of a batch that is full or as long as it was, and too long a batch.
func (all *turns) threadBatch(m api.Machine, thread int) {
	name := "Threads " + strconv.Itoa(thread) + " Batch"
	batch := func(m *api.Machine) *[]int { return &m.Threads[thread].Batch }
	all.places(name, m.Config.Threads, batch, Outside(0, m.Config.Threads-1))
}

// threadTails: a tail that is no place, at each place of as many as there are logs or as there were, and too many of them.
func (all *turns) threadTails(m api.Machine, thread int) {
	name := "Threads " + strconv.Itoa(thread) + " Tails"
	tails := func(m *api.Machine) *[]int { return &m.Threads[thread].Tails }
	all.places(name, m.Config.Logs, tails, Outside(0, 1048576))
}

// places: a list that may have no more than so many has one more; one of these numbers, at each place of it, were it full.
func (all *turns) places(name string, most int, list func(m *api.Machine) *[]int, wrong []int) {
	all.add(name+", one too many", func(m *api.Machine) { *list(m) = make([]int, most+1) })
	for i := range most {
		all.numbers(name+" "+strconv.Itoa(i), wrong, func(m *api.Machine, x int) {
			long := append(slices.Clone(*list(m)), make([]int, most)...)[:max(i+1, len(*list(m)))]
			long[i] = x
			*list(m) = long
		})
	}
}

// counts: one ring, replica or thread too many or too few, or none at all.
func (all *turns) counts() {
	all.add("Rings, one more", func(m *api.Machine) { m.Rings = append(m.Rings, CopiedRing(m.Rings[0])) })
	all.add("Rings, one fewer", func(m *api.Machine) { m.Rings = m.Rings[:len(m.Rings)-1] })
	all.add("Rings, none", func(m *api.Machine) { m.Rings = nil })
	all.add("Replicas, one more", func(m *api.Machine) { m.Replicas = append(m.Replicas, CopiedMachine(*m).Replicas[0]) })
	all.add("Replicas, one fewer", func(m *api.Machine) { m.Replicas = m.Replicas[:len(m.Replicas)-1] })
	all.add("Replicas, none", func(m *api.Machine) { m.Replicas = nil })
	all.add("Threads, one more", func(m *api.Machine) { m.Threads = append(m.Threads, api.Thread{}) })
	all.add("Threads, one fewer", func(m *api.Machine) { m.Threads = m.Threads[:len(m.Threads)-1] })
	all.add("Threads, none", func(m *api.Machine) { m.Threads = nil })
}

// history: too many events, and one that may not be, at some places of as many as there may be.
func (all *turns) history(m api.Machine) {
	for _, count := range []int{65, 66, 128, 1 << 12} {
		all.add("History of "+strconv.Itoa(count), func(m *api.Machine) { m.History = make([]api.Event, count) })
	}
	for _, at := range []int{0, 1, 31, 62, 63} {
		name := "History " + strconv.Itoa(at)
		all.numbers(name+" Thread", Outside(0, m.Config.Threads-1), func(m *api.Machine, x int) { setEvent(m, at, api.Event{Thread: x}) })
		all.ops(name+" Op", func(m *api.Machine, o api.Op) { setEvent(m, at, api.Event{Op: o}) })
	}
}

// setEvent: event number at of the history is this one; ahead of it are as many as that takes.
func setEvent(m *api.Machine, at int, e api.Event) {
	m.History = append(slices.Clone(m.History), make([]api.Event, 64)...)[:max(at+1, len(m.History))]
	m.History[at] = e
}
