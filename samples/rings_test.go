package samples

import (
	"slices"
	"testing"

	"chorus/api"
)

// unlike: how many things of these rings are not the same: the places, the fence, each slot.
func unlike(r, x api.Ring) int {
	count := 0
	if r.Head != x.Head || r.Tail != x.Tail {
		count++
	}
	if r.Fence != x.Fence {
		count++
	}
	for i := range r.Slots {
		if r.Slots[i] != x.Slots[i] {
			count++
		}
	}
	return count
}

func TestRingIsOfTheseSlotsAndPlaces(t *testing.T) {
	for _, x := range []struct {
		n, head, tail int
		bits          []int
	}{
		{2, 0, 0, []int{0, 0}}, {2, 0, 1, []int{1, 0}}, {2, 1, 3, []int{0, 1}}, {4, 3, 6, []int{0, 0, 1, 1}}, {4, 5, 9, []int{1, 0, 0, 0}}, {4, 8, 8, []int{0, 0, 0, 0}},
	} {
		r := Ring(x.n, x.head, x.tail)
		var bits []int
		for i, s := range r.Slots {
			bits = append(bits, s.Bit)
			if slices.Contains(r.Slots[:i], s) {
				t.Errorf("%v: slot %d is there twice", r, i)
			}
		}
		if r.Head != x.head || r.Tail != x.tail || r.Fence != 0 || !slices.Equal(bits, x.bits) {
			t.Errorf("%v: %v", x, r)
		}
	}
}

func TestSameRingHoldsEachThing(t *testing.T) {
	for _, n := range SlotCounts() {
		r := Ring(n, n, n+1)
		if !SameRing(r, CopiedRing(r)) {
			t.Errorf("%v is not the same", r)
		}
		if SameRing(r, Ring(n*2, n, n+1)) || SameRing(r, api.Ring{Head: n, Tail: n + 1}) {
			t.Errorf("%v: another number of slots is the same", r)
		}
		for _, x := range WrongRings(r) {
			if SameRing(r, x) || SameRing(x, r) {
				t.Errorf("%v and %v are the same", r, x)
			}
		}
	}
}

func TestWrongRingsTurnOneThingEach(t *testing.T) {
	for _, n := range SlotCounts() {
		r := Ring(n, n+1, n+2)
		old := CopiedRing(r)
		turned := make([]int, n+2)
		for _, x := range WrongRings(r) {
			if len(x.Slots) != n || unlike(r, x) != 1 {
				t.Fatalf("%v: %v", r, x)
			}
			switch at := slices.IndexFunc(x.Slots, func(s api.Slot) bool { return !slices.Contains(r.Slots, s) }); {
			case at >= 0:
				turned[at]++
			case x.Fence != r.Fence:
				turned[n]++
			default:
				turned[n+1]++
			}
		}
		if slices.Contains(turned, 0) || !SameRing(r, old) {
			t.Errorf("%v: %v", r, turned)
		}
	}
}

func TestUpdatesAndNoUpdatesAreApart(t *testing.T) {
	for _, o := range Updates() {
		if o.Code < 0 || o.Code > 1 || o.Row < 0 || o.Row > 3 || o.Arg < 0 || o.Arg > 255 {
			t.Errorf("%v", o)
		}
	}
	for _, o := range NoUpdates() {
		if slices.Contains(Updates(), o) {
			t.Errorf("%v", o)
		}
	}
	if len(Updates()) != 2*4*4 || len(NoUpdates()) != len(WrongOps())+3 {
		t.Errorf("%d, %d", len(Updates()), len(NoUpdates()))
	}
}

func TestRingWithTurnsACopy(t *testing.T) {
	r := Ring(4, 3, 6)
	old := CopiedRing(r)
	x := RingWith(r, func(x *api.Ring) {
		x.Head, x.Tail, x.Fence = 4, 7, 2
		x.Slots[3].Thread = 9
	})
	want := api.Ring{Head: 4, Tail: 7, Fence: 2, Slots: slices.Clone(old.Slots)}
	want.Slots[3].Thread = 9
	if !SameRing(x, want) || !SameRing(r, old) {
		t.Errorf("%v, %v", x, r)
	}
}

func TestRoomBehindARing(t *testing.T) {
	plain := Ring(4, 3, 6)
	r, room := RoomyRing(plain)
	if !SameRing(r, plain) || cap(r.Slots) <= 4 || &r.Slots[0] != &room[0] || &r.Slots[0] == &plain.Slots[0] {
		t.Errorf("%v, of %d", r, cap(r.Slots))
	}
	old := slices.Clone(room)
	_ = append(r.Slots, api.Slot{})
	if slices.Equal(room, old) {
		t.Errorf("what is written behind the slots is not in the room: %v", room)
	}
	ScribbleRing(r)
	for i, s := range room {
		if s != slotMarker() {
			t.Errorf("slot %d is not written over: %v", i, s)
		}
	}
}
