package samples

import (
	"slices"

	"chorus/api"
)

// SameMachine: is it the same machine? (An empty list and nil are one.)
func SameMachine(m, x api.Machine) bool {
	return m.Config == x.Config &&
		slices.EqualFunc(m.Rings, x.Rings, SameRing) &&
		slices.EqualFunc(m.Replicas, x.Replicas, sameReplica) &&
		slices.EqualFunc(m.Threads, x.Threads, sameThread) &&
		slices.Equal(m.History, x.History)
}

// sameReplica: is it the same replica?
func sameReplica(r, x api.Replica) bool {
	return Same(r.State, x.State) && slices.Equal(r.Cursors, x.Cursors) && slices.Equal(r.Locks, x.Locks)
}

// sameThread: is it the same thread?
func sameThread(t, x api.Thread) bool {
	return t.Step == x.Step && t.Op == x.Op && t.Log == x.Log && t.Seen == x.Seen &&
		slices.Equal(t.Batch, x.Batch) && t.At == x.At &&
		t.Posted == x.Posted && t.Ready == x.Ready && t.Answer == x.Answer && slices.Equal(t.Tails, x.Tails)
}

// IsNoMachine: is it the machine's zero value?
func IsNoMachine(m api.Machine) bool {
	return m.Config == api.Config{} && m.Rings == nil && m.Replicas == nil && m.Threads == nil && m.History == nil
}

// MachineWith: m, but for what turn does to it.
func MachineWith(m api.Machine, turn func(x *api.Machine)) api.Machine {
	x := CopiedMachine(m)
	turn(&x)
	return x
}

// CopiedMachine: the same machine, in memory that no call under test has made.
func CopiedMachine(m api.Machine) api.Machine {
	return eachList(m, slices.Clone[[]int], slices.Clone[[]api.Slot], slices.Clone[[]api.Ring], slices.Clone[[]api.Replica], slices.Clone[[]api.Thread], slices.Clone[[]api.Event])
}

// RoomyMachine: the same machine, with room behind each list, in which something stands that no machine has.
func RoomyMachine(m api.Machine) api.Machine {
	return eachList(m, roomyList(-77), roomyList(slotMarker()), roomyList(api.Ring{Head: -77}), roomyList(api.Replica{}), roomyList(api.Thread{Step: -77}), roomyList(api.Event{Thread: -77}))
}

// roomyList: the same list, with room behind it that is full of x.
func roomyList[T any](x T) func(xs []T) []T {
	return func(xs []T) []T {
		return append(slices.Clone(xs), slices.Repeat([]T{x}, 5)...)[:len(xs)]
	}
}

// WholeMachine: a copy of m, in which each list has what stands in the room behind it, too.
func WholeMachine(m api.Machine) api.Machine {
	return eachList(m, wholeList[int], wholeList[api.Slot], wholeList[api.Ring], wholeList[api.Replica], wholeList[api.Thread], wholeList[api.Event])
}

// wholeList: a copy of the list with all its room.
func wholeList[T any](xs []T) []T {
	return slices.Clone(xs[:cap(xs)])
}

// eachList: m, with what these make of each of its lists. (Of a list of parts first, so that parts in its room are not left out.)
func eachList(m api.Machine, numbers func([]int) []int, slots func([]api.Slot) []api.Slot, rings func([]api.Ring) []api.Ring, replicas func([]api.Replica) []api.Replica, threads func([]api.Thread) []api.Thread, events func([]api.Event) []api.Event) api.Machine {
	m.Rings, m.Replicas, m.Threads, m.History = rings(m.Rings), replicas(m.Replicas), threads(m.Threads), events(m.History)
	for i := range m.Rings {
		m.Rings[i].Slots = slots(m.Rings[i].Slots)
	}
	for _, list := range numberLists(m) {
		*list = numbers(*list)
	}
	return m
}

// numberLists: where m's lists of numbers are.
func numberLists(m api.Machine) []*[]int {
	var all []*[]int
	for i := range m.Replicas {
		r := &m.Replicas[i]
		for row := range r.State.Rows {
			all = append(all, &r.State.Rows[row])
		}
		all = append(all, &r.Cursors, &r.Locks)
	}
	for i := range m.Threads {
		all = append(all, &m.Threads[i].Batch, &m.Threads[i].Tails)
	}
	return all
}

// ScribbleMachine writes over all lists of a machine, and over all the room behind them.
func ScribbleMachine(m api.Machine) {
	for _, list := range numberLists(m) {
		fill(*list, -7)
	}
	for _, r := range m.Rings {
		ScribbleRing(r)
	}
	fill(m.Rings, api.Ring{Head: -7})
	fill(m.Replicas, api.Replica{Cursors: []int{-7}})
	fill(m.Threads, api.Thread{Step: -7})
	fill(m.History, api.Event{Thread: -7})
}

// ListsApart: is no memory in two of a machine's lists, the room behind them too? (It is written over.)
func ListsApart(m api.Machine) bool {
	var numbers [][]int
	for _, list := range numberLists(m) {
		numbers = append(numbers, *list)
	}
	var slots [][]api.Slot
	for _, r := range m.Rings {
		slots = append(slots, r.Slots)
	}
	return apartLists(numbers, func(i int) int { return i }) && apartLists(slots, func(i int) api.Slot { return api.Slot{Thread: i} })
}

// apartLists: is no memory in two of these lists? (Each of them is filled with its own mark.)
func apartLists[T comparable](lists [][]T, mark func(i int) T) bool {
	for i, list := range lists {
		fill(list, mark(i))
	}
	for i, list := range lists {
		if slices.ContainsFunc(list[:cap(list)], func(x T) bool { return x != mark(i) }) {
			return false
		}
	}
	return true
}
