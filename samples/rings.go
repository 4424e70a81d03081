package samples

import (
	"math"
	"slices"

	"chorus/api"
)

// SlotCounts: how many slots there may be, written out.
func SlotCounts() []int {
	return []int{2, 4, 8, 16}
}

// WrongSlotCounts: how many there may not be; some of them may be if bits or the sign were lost.
func WrongSlotCounts() []int {
	return []int{math.MinInt, -1 << 32, -256, -16, -8, -4, -2, -1, 0, 1, 3, 5, 6, 7, 9, 10, 12, 14, 15, 17, 18, 24, 31, 32, 33, 64, 256, 258, 1 << 16, 1<<32 + 2, 1<<32 + 16, 1 << 62, math.MaxInt}
}

// Far: numbers that are far outside of what any place, count or thread may be; some of them may be if bits or the sign were lost.
func Far() []int {
	return []int{math.MinInt, math.MinInt + 1, -1 << 32, -api.MaxCell, -256, -17, -2, api.MaxCell + 1, api.MaxCell + 2, 2 * api.MaxCell, 1 << 32, 1<<32 + 1, 1<<32 + 2, 1<<32 + 5, 1 << 62, math.MaxInt - 1, math.MaxInt}
}

// Updates: operations that update, each row and the edges of the argument among them.
func Updates() []api.Op {
	return slices.DeleteFunc(Ops(0, 1, 254, 255), func(o api.Op) bool { return o.Code > 1 })
}

// NoUpdates: operations that do not, those that may not be among them.
func NoUpdates() []api.Op {
	return append(WrongOps(), api.Op{Code: 2}, api.Op{Code: 2, Row: 3}, api.Op{Code: 3})
}

// Ring: a ring of n slots, each of them different, with these places; the bits are those of the laps in which the slots were written to last.
func Ring(n, head, tail int) api.Ring {
	r := api.Ring{Head: head, Tail: tail, Slots: make([]api.Slot, n)}
	for i := range r.Slots {
		r.Slots[i] = api.Slot{Op: api.Op{Code: i % 2, Row: i % 4, Arg: 100 + i}, Thread: (i + 1) % 4}
	}
	for at := max(0, tail-n); at < tail; at++ {
		r.Slots[at%n].Bit = 1 - at/n%2
	}
	return r
}

// SameRing: is it the same ring?
func SameRing(r, x api.Ring) bool {
	return r.Head == x.Head && r.Tail == x.Tail && r.Fence == x.Fence && slices.Equal(r.Slots, x.Slots)
}

// CopiedRing: the same ring, in memory that no call under test has made.
func CopiedRing(r api.Ring) api.Ring {
	r.Slots = slices.Clone(r.Slots)
	return r
}

// RingWith: r, but for what turn does to it.
func RingWith(r api.Ring, turn func(x *api.Ring)) api.Ring {
	x := CopiedRing(r)
	turn(&x)
	return x
}

// WrongRings: rings that may not be, though r may: in each of them its places, its fence or one thing of one slot are others.
func WrongRings(r api.Ring) []api.Ring {
	return slices.Concat(wrongPlaces(r), wrongFences(r), wrongSlots(r))
}

// wrongPlaces: r with a Head or a Tail that may not be.
func wrongPlaces(r api.Ring) []api.Ring {
	n, head, tail := len(r.Slots), r.Head, r.Tail
	pairs := [][2]int{
		{-1, -1}, {-1, 0}, {-1, n - 1}, {-n, 0}, {tail + 1, tail}, {1, 0}, {0, n + 1}, {head, head + n + 1}, {head, head - 1}, {0, 2 * n},
		{api.MaxCell - n + 1, api.MaxCell + 1}, {api.MaxCell, api.MaxCell + 1}, {api.MaxCell + 1, api.MaxCell + 1}, {api.MaxCell + 1, api.MaxCell},
		{math.MinInt, math.MinInt}, {math.MinInt, math.MaxInt}, {math.MaxInt, math.MinInt}, {math.MaxInt, math.MaxInt}, {math.MinInt, 1 << 62}, {math.MaxInt - 1, math.MaxInt}, {0, math.MinInt},
	}
	for _, x := range Far() {
		pairs = append(pairs, [2]int{x, tail}, [2]int{head, x}, [2]int{x, x})
	}
	var all []api.Ring
	for _, pair := range pairs {
		all = append(all, RingWith(r, func(x *api.Ring) { x.Head, x.Tail = pair[0], pair[1] }))
	}
	return all
}

// wrongFences: r with a fence that may not be.
func wrongFences(r api.Ring) []api.Ring {
	var all []api.Ring
	for _, fence := range append(Far(), -1, 5, 6, 255, 256, 257) {
		all = append(all, RingWith(r, func(x *api.Ring) { x.Fence = fence }))
	}
	return all
}

// wrongSlots: r with one slot of which one thing may not be.
func wrongSlots(r api.Ring) []api.Ring {
	var all []api.Ring
	for i := range r.Slots {
		for _, thread := range append(Far(), -1, 4, 5, 255, 256, 257) {
			all = append(all, RingWith(r, func(x *api.Ring) { x.Slots[i].Thread = thread }))
		}
		for _, bit := range append(Far(), -1, 2, 3, 255, 256, 257) {
			all = append(all, RingWith(r, func(x *api.Ring) { x.Slots[i].Bit = bit }))
		}
		for _, o := range NoUpdates() {
			all = append(all, RingWith(r, func(x *api.Ring) { x.Slots[i].Op = o }))
		}
	}
	return all
}

// slotMarker is what stands in the room behind the slots that a test hands in; a ring may not have it.
func slotMarker() api.Slot {
	return api.Slot{Op: api.Op{Code: 77, Row: 77, Arg: 777}, Thread: 77, Bit: 77}
}

// RoomyRing: the same ring, with room behind its slots; all of that room.
func RoomyRing(r api.Ring) (api.Ring, []api.Slot) {
	room := append(slices.Clone(r.Slots), slices.Repeat([]api.Slot{slotMarker()}, 20)...)
	r.Slots = room[:len(r.Slots)]
	return r, room
}

// ScribbleRing writes over a ring's slots and over all the room behind them.
func ScribbleRing(r api.Ring) {
	fill(r.Slots, slotMarker())
}
