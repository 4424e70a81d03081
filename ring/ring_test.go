package ring

import (
	"math"
	"slices"
	"strconv"
	"testing"

	"chorus/api"
	"chorus/samples"
)

// text: a ring, as text.
func text(r api.Ring) string {
	told := "{" + numbers(r.Head, r.Tail, r.Fence) + ":"
	for _, s := range r.Slots {
		told += " " + slotText(s)
	}
	return told + "}"
}

// slotText: a slot, as text.
func slotText(s api.Slot) string {
	return numbers(s.Op.Code, s.Op.Row, s.Op.Arg, s.Thread, s.Bit)
}

// numbers: these, as text.
func numbers(xs ...int) string {
	told := ""
	for i, x := range xs {
		if i > 0 {
			told += ","
		}
		told += strconv.Itoa(x)
	}
	return told
}

// isZero: is it the ring's zero value?
func isZero(r api.Ring) bool {
	return r.Head == 0 && r.Tail == 0 && r.Fence == 0 && r.Slots == nil
}

// refusal: "", if each call of r answers the error alone, and leaves r as it was; else what it does.
func refusal(r api.Ring, count, at int, o api.Op, thread, head int) string {
	if fault := reserveRefusal(r, count, api.ErrRingForm); fault != "" {
		return fault
	}
	if fault := publishRefusal(r, at, o, thread); fault != "" {
		return fault
	}
	if fault := entryRefusal(r, at, api.ErrRingForm); fault != "" {
		return fault
	}
	return freeRefusal(r, head)
}

// reserveRefusal: "", if Reserve answers the error alone; else what it does.
func reserveRefusal(r api.Ring, count int, err api.Errno) string {
	old := samples.CopiedRing(r)
	x, where, e := Reserve(r, count)
	return refused("Reserve "+numbers(count), old, r, isZero(x) && where == 0, e, err)
}

// publishRefusal: "", if Publish answers ErrRingForm alone; else what it does.
func publishRefusal(r api.Ring, at int, o api.Op, thread int) string {
	old := samples.CopiedRing(r)
	x, e := Publish(r, at, o, thread)
	return refused("Publish "+numbers(at, o.Code, o.Row, o.Arg, thread), old, r, isZero(x), e, api.ErrRingForm)
}

// entryRefusal: "", if Entry answers the error alone; else what it does.
func entryRefusal(r api.Ring, at int, err api.Errno) string {
	old := samples.CopiedRing(r)
	s, e := Entry(r, at)
	return refused("Entry "+numbers(at), old, r, s == api.Slot{}, e, err)
}

// freeRefusal: "", if Free answers ErrRingForm alone; else what it does.
func freeRefusal(r api.Ring, head int) string {
	old := samples.CopiedRing(r)
	x, e := Free(r, head)
	return refused("Free "+numbers(head), old, r, isZero(x), e, api.ErrRingForm)
}

// refused: "", if there was nothing beside the error, it is the one that is wanted, and r is as it was; else what is not so.
func refused(call string, old, r api.Ring, alone bool, e, want api.Errno) string {
	switch {
	case e != want:
		return text(old) + ": " + call + ": error " + strconv.Itoa(int(e)) + "; want " + strconv.Itoa(int(want))
	case !alone:
		return text(old) + ": " + call + ": something beside the error"
	case !samples.SameRing(old, r):
		return text(old) + ": " + call + ": the ring that was given is changed"
	}
	return ""
}

// reserveFault: "", if Reserve answers r with Tail moved on alone, and where it was; else what it does.
func reserveFault(r api.Ring, count int) string {
	old := samples.CopiedRing(r)
	x, where, e := Reserve(r, count)
	want := samples.RingWith(old, func(x *api.Ring) { x.Tail += count })
	return done("Reserve "+numbers(count)+" at "+numbers(where), old, r, x, want, where == old.Tail, e)
}

// publishFault: "", if Publish answers r with that slot turned alone; else what it does.
func publishFault(r api.Ring, at int, o api.Op, thread, bit int) string {
	old := samples.CopiedRing(r)
	x, e := Publish(r, at, o, thread)
	want := samples.RingWith(old, func(x *api.Ring) { x.Slots[at%len(x.Slots)] = api.Slot{Op: o, Thread: thread, Bit: bit} })
	return done("Publish "+numbers(at, o.Code, o.Row, o.Arg, thread), old, r, x, want, true, e)
}

// freeFault: "", if Free answers r with Head moved alone; else what it does.
func freeFault(r api.Ring, head int) string {
	old := samples.CopiedRing(r)
	x, e := Free(r, head)
	want := samples.RingWith(old, func(x *api.Ring) { x.Head = head })
	return done("Free "+numbers(head), old, r, x, want, true, e)
}

// done: "", if the ring that is answered is the one that is wanted, and may be, so is what is beside it, and r is as it was; else what is not so.
func done(call string, old, r, x, want api.Ring, beside bool, e api.Errno) string {
	switch {
	case e != api.OK:
		return text(old) + ": " + call + ": error " + strconv.Itoa(int(e))
	case !samples.SameRing(x, want) || !beside:
		return text(old) + ": " + call + ": " + text(x) + "; want " + text(want)
	case !samples.SameRing(old, r):
		return text(old) + ": " + call + ": the ring that was given is changed"
	case !May(x):
		return text(old) + ": " + call + ": " + text(x) + " may not be"
	}
	return ""
}

// entryFault: "", if Entry answers that slot; else what it does.
func entryFault(r api.Ring, at int, want api.Slot) string {
	old := samples.CopiedRing(r)
	s, e := Entry(r, at)
	if e != api.OK || s != want || !samples.SameRing(old, r) {
		return text(old) + ": Entry " + numbers(at) + ": " + slotText(s) + ", " + strconv.Itoa(int(e)) + "; want " + slotText(want)
	}
	return ""
}

// tell reports a fault, if there is one.
func tell(t *testing.T, promise, fault string) {
	t.Helper()
	if fault != "" {
		t.Errorf("%s: %s", promise, fault)
	}
}

func TestNewRingsAreAllZero(t *testing.T) {
	for _, n := range samples.SlotCounts() {
		r, e := New(n)
		if e != api.OK || !samples.SameRing(r, api.Ring{Slots: make([]api.Slot, n)}) {
			t.Errorf("P10.1: %d: %s, %d", n, text(r), e)
		}
		if !May(r) {
			t.Errorf("P10.1: %d: it may not be", n)
		}
	}
}

func TestNumbersOfSlotsThatMayNotBe(t *testing.T) {
	for _, n := range samples.WrongSlotCounts() {
		if r, e := New(n); e != api.ErrRingForm || !isZero(r) {
			t.Errorf("P10.1: %d: %s, %d", n, text(r), e)
		}
		if n >= 0 && n <= 1<<16 {
			tell(t, "P10.1", refusal(api.Ring{Slots: make([]api.Slot, n)}, 1, 0, api.Op{}, 0, 0))
			if May(api.Ring{Slots: make([]api.Slot, n)}) {
				t.Errorf("P10.1: %d: it may be", n)
			}
		}
	}
	for _, r := range []api.Ring{{}, {Slots: []api.Slot{}}, {Tail: 1}} {
		if May(r) {
			t.Errorf("P10.1: %s: it may be", text(r))
		}
		tell(t, "P10.1", refusal(r, 1, 0, api.Op{}, 0, 0))
	}
}

func TestRingsThatMayBe(t *testing.T) {
	for _, n := range samples.SlotCounts() {
		for _, head := range []int{0, 1, n - 1, n, n + 1, 77, api.MaxCell - n, api.MaxCell - 1, api.MaxCell} {
			for tail := head; tail <= min(head+n, api.MaxCell); tail++ {
				for fence := range api.MaxThreads + 1 {
					r := samples.Ring(n, head, tail)
					r.Fence = fence
					if !May(r) {
						t.Errorf("P10.1: %s: it may not be", text(r))
					}
				}
			}
		}
	}
}

func TestSlotsThatMayBe(t *testing.T) {
	for _, o := range samples.Updates() {
		for thread := range 4 {
			for bit := range 2 {
				for i := range 4 {
					r := samples.RingWith(samples.Ring(4, 3, 6), func(x *api.Ring) { x.Slots[i] = api.Slot{Op: o, Thread: thread, Bit: bit} })
					if !May(r) {
						t.Errorf("P10.1: %s: it may not be", text(r))
					}
				}
			}
		}
	}
}

func TestRingsThatMayNotBe(t *testing.T) {
	for _, n := range samples.SlotCounts() {
		fair := samples.Ring(n, n+1, n+2)
		for _, r := range samples.WrongRings(fair) {
			if May(r) {
				t.Errorf("P10.1: %s: it may be", text(r))
			}
			tell(t, "P10.2", refusal(r, 1, n+1, api.Op{}, 0, n+1))
			// What else is wrong does not turn the error: the one that the chapter names first is answered.
			tell(t, "R6", refusal(r, n+1, n+2, api.Op{Code: 3}, 4, n+3))
			if r.Fence == 0 {
				r.Fence = 3
				tell(t, "R6", reserveRefusal(r, 1, api.ErrRingForm))
			}
		}
	}
}

func TestReserveWrittenOut(t *testing.T) {
	for _, x := range []struct {
		n, head, tail, count int
		want                 api.Errno
	}{
		{2, 0, 0, 1, 0}, {2, 0, 0, 2, 0}, {2, 0, 1, 1, 0}, {2, 0, 1, 2, 1001}, {2, 0, 2, 1, 1001}, {2, 0, 2, 2, 1001}, {2, 1, 2, 1, 0}, {2, 2, 2, 2, 0}, {2, 3, 4, 2, 1001},
		{4, 0, 0, 4, 0}, {4, 0, 1, 3, 0}, {4, 0, 1, 4, 1001}, {4, 0, 3, 1, 0}, {4, 0, 3, 2, 1001}, {4, 0, 4, 1, 1001}, {4, 3, 6, 1, 0}, {4, 3, 6, 2, 1001}, {4, 5, 5, 4, 0},
		{8, 0, 0, 8, 0}, {8, 0, 7, 1, 0}, {8, 0, 7, 2, 1001}, {8, 9, 12, 5, 0}, {8, 9, 12, 6, 1001}, {8, 0, 8, 8, 1001},
		{16, 0, 0, 16, 0}, {16, 0, 15, 1, 0}, {16, 0, 15, 2, 1001}, {16, 30, 33, 13, 0}, {16, 30, 33, 14, 1001}, {16, 0, 16, 1, 1001},
		{2, 1048574, 1048574, 2, 0}, {2, 1048575, 1048575, 1, 0}, {2, 1048575, 1048575, 2, 1001}, {2, 1048576, 1048576, 1, 1001}, {2, 1048575, 1048576, 1, 1001},
		{4, 1048572, 1048573, 3, 0}, {4, 1048573, 1048573, 3, 0}, {4, 1048573, 1048573, 4, 1001}, {4, 1048575, 1048575, 2, 1001},
		{16, 1048560, 1048560, 16, 0}, {16, 1048561, 1048561, 16, 1001}, {16, 1048561, 1048561, 15, 0}, {16, 1048570, 1048575, 1, 0}, {16, 1048570, 1048575, 2, 1001}, {16, 1048576, 1048576, 16, 1001},
	} {
		r := samples.Ring(x.n, x.head, x.tail)
		if x.want == api.OK {
			tell(t, "P10.2", reserveFault(r, x.count))
		} else {
			tell(t, "P10.2", reserveRefusal(r, x.count, x.want))
		}
	}
}

func TestReserveOfEveryRoom(t *testing.T) {
	for _, n := range samples.SlotCounts() {
		for _, head := range []int{0, 1, n - 1, n, 3*n + 1} {
			for in := range n + 1 {
				for count := 1; count <= n; count++ {
					r := samples.Ring(n, head, head+in)
					if in+count <= n {
						tell(t, "P10.2", reserveFault(r, count))
					} else {
						tell(t, "P10.2", reserveRefusal(r, count, api.ErrRingFull))
					}
				}
			}
		}
	}
}

func TestCountsThatMayNotBe(t *testing.T) {
	for _, n := range samples.SlotCounts() {
		for _, count := range append(samples.Far(), 0, -1, n+1, n+2, 2*n, 256+1, math.MaxInt-api.MaxCell) {
			for fence := range 5 {
				for _, tail := range []int{5, 6, 5 + n} {
					r := samples.Ring(n, 5, tail)
					r.Fence = fence
					tell(t, "P10.2", reserveRefusal(r, count, api.ErrRingForm))
				}
			}
		}
	}
}

func TestAFenceLetsNobodyReserve(t *testing.T) {
	for _, n := range samples.SlotCounts() {
		for fence := 1; fence <= 4; fence++ {
			r := samples.Ring(n, n, n+1)
			r.Fence = fence
			for count := 1; count <= n; count++ {
				tell(t, "P10.2", reserveRefusal(r, count, api.ErrRingFull))
			}
			r.Slots[0].Bit = 0
			tell(t, "P10.2", publishFault(r, n, api.Op{Code: 1, Row: 2, Arg: 7}, 3, 0))
			tell(t, "P10.3", entryFault(r, n, r.Slots[0]))
			tell(t, "P10.3", freeFault(r, n+1))
		}
	}
}

func TestPublishWritesThatSlotAlone(t *testing.T) {
	for _, x := range []struct{ n, head, tail, at, slot, bit int }{
		{2, 0, 2, 0, 0, 1}, {2, 0, 2, 1, 1, 1}, {2, 1, 3, 2, 0, 0}, {2, 3, 5, 3, 1, 0}, {2, 3, 5, 4, 0, 1},
		{4, 0, 1, 0, 0, 1}, {4, 0, 4, 3, 3, 1}, {4, 3, 6, 4, 0, 0}, {4, 3, 6, 5, 1, 0}, {4, 6, 10, 9, 1, 1}, {4, 12, 13, 12, 0, 0},
		{8, 0, 8, 7, 7, 1}, {8, 5, 13, 8, 0, 0}, {8, 5, 13, 12, 4, 0}, {8, 16, 20, 19, 3, 1},
		{16, 0, 16, 15, 15, 1}, {16, 16, 32, 16, 0, 0}, {16, 16, 32, 31, 15, 0}, {16, 20, 36, 35, 3, 1},
		{2, 1048574, 1048576, 1048575, 1, 0}, {16, 1048560, 1048576, 1048560, 0, 0}, {16, 1048560, 1048576, 1048575, 15, 0},
	} {
		for _, o := range samples.Updates() {
			for thread := range 4 {
				r := samples.Ring(x.n, x.head, x.tail)
				got, e := Publish(r, x.at, o, thread)
				want := samples.RingWith(r, func(r *api.Ring) { r.Slots[x.slot] = api.Slot{Op: o, Thread: thread, Bit: x.bit} })
				if e != api.OK || !samples.SameRing(got, want) {
					t.Errorf("P10.2: %s: %d, %v, %d: %s, %d; want %s", text(r), x.at, o, thread, text(got), e, text(want))
				}
				tell(t, "P10.3", entryFault(got, x.at, want.Slots[x.slot]))
			}
		}
	}
}

func TestPlacesBesideThoseInTheRing(t *testing.T) {
	o := api.Op{Code: 1, Row: 1, Arg: 1}
	for _, n := range samples.SlotCounts() {
		for _, head := range []int{0, 1, n - 1, n, 2*n + 1, api.MaxCell - n} {
			for in := range n + 1 {
				r := samples.Ring(n, head, head+in)
				for at := head - 2*n; at <= head+in+2*n; at++ {
					if at >= head && at < head+in {
						tell(t, "P10.2", publishFault(r, at, o, 2, 1-at/n%2))
						tell(t, "P10.3", entryFault(r, at, r.Slots[at%n]))
						continue
					}
					tell(t, "P10.2", publishRefusal(r, at, o, 2))
					tell(t, "P10.3", entryRefusal(r, at, api.ErrRingEmpty))
				}
				for _, at := range samples.Far() {
					tell(t, "P10.2", publishRefusal(r, at, o, 2))
					tell(t, "P10.3", entryRefusal(r, at, api.ErrRingEmpty))
				}
			}
		}
	}
}

func TestWhatMayNotBePublished(t *testing.T) {
	for _, n := range samples.SlotCounts() {
		r := samples.Ring(n, 1, 3)
		for _, o := range samples.NoUpdates() {
			tell(t, "P10.2", publishRefusal(r, 1, o, 0))
			tell(t, "P10.2", publishRefusal(r, 2, o, 3))
		}
		for _, thread := range append(samples.Far(), -1, 4, 5, 255, 256, 257) {
			tell(t, "P10.2", publishRefusal(r, 1, api.Op{}, thread))
			tell(t, "P10.2", publishRefusal(r, 2, api.Op{Code: 1, Row: 3, Arg: 255}, thread))
		}
	}
}

func TestASlotThatIsNotAliveIsNoEntry(t *testing.T) {
	for _, n := range samples.SlotCounts() {
		for _, head := range []int{0, 1, n, n + 1, 4*n - 1} {
			full := samples.Ring(n, head, head+n)
			for at := head; at < head+n; at++ {
				r := samples.RingWith(full, func(x *api.Ring) { x.Slots[at%n].Bit = 1 - x.Slots[at%n].Bit })
				for other := head; other < head+n; other++ {
					if other == at {
						tell(t, "P10.3", entryRefusal(r, at, api.ErrRingEmpty))
					} else {
						tell(t, "P10.3", entryFault(r, other, r.Slots[other%n]))
					}
				}
			}
		}
	}
}

func TestFreeMovesHeadAlone(t *testing.T) {
	for _, n := range samples.SlotCounts() {
		for _, head := range []int{0, 1, n - 1, n, 3*n + 1, api.MaxCell - n} {
			for in := range n + 1 {
				for fence := range 5 {
					r := samples.Ring(n, head, head+in)
					r.Fence = fence
					for to := head; to <= head+in; to++ {
						tell(t, "P10.3", freeFault(r, to))
					}
					for _, to := range append(samples.Far(), head-1, head-2, head-n, head+in+1, head+in+2, head+2*n+1) {
						tell(t, "P10.3", freeRefusal(r, to))
					}
				}
			}
		}
	}
}

// order: the numbers below count, in a row of their own for each turn.
func order(count, turn int) []int {
	var row []int
	for i := range count {
		row = append(row, i)
	}
	switch turn % 3 {
	case 1:
		slices.Reverse(row)
	case 2:
		slices.SortFunc(row, func(i, j int) int { return (i+turn)%3*count + i - (j+turn)%3*count - j })
	}
	return row
}

// nth: the operation and the thread that the tests publish as entry number at.
func nth(at int) (api.Op, int) {
	return api.Op{Code: at % 2, Row: at / 2 % 4, Arg: at % 251}, at / 3 % 4
}

// fill: count more entries, published in a row that turn chooses; whoever is not published yet is no entry.
func fill(t *testing.T, r api.Ring, count, turn int) api.Ring {
	t.Helper()
	tell(t, "P10.2", reserveFault(r, count))
	r, where, _ := Reserve(r, count)
	for i := range count {
		tell(t, "P10.3", entryRefusal(r, where+i, api.ErrRingEmpty))
	}
	for _, i := range order(count, turn) {
		at := where + i
		o, thread := nth(at)
		tell(t, "P10.3", entryRefusal(r, at, api.ErrRingEmpty))
		tell(t, "P10.2", publishFault(r, at, o, thread, 1-at/len(r.Slots)%2))
		r, _ = Publish(r, at, o, thread)
	}
	return r
}

// inRing: the entries of r are those that were published, no more and no fewer.
func inRing(t *testing.T, r api.Ring) {
	t.Helper()
	n := len(r.Slots)
	for at := r.Head - n; at < r.Tail+n; at++ {
		if at < r.Head || at >= r.Tail {
			tell(t, "P10.3", entryRefusal(r, at, api.ErrRingEmpty))
			continue
		}
		o, thread := nth(at)
		tell(t, "P10.3", entryFault(r, at, api.Slot{Op: o, Thread: thread, Bit: 1 - at/n%2}))
	}
}

func TestLaps(t *testing.T) {
	for _, n := range samples.SlotCounts() {
		for count := 1; count <= n; count++ {
			r, _ := New(n)
			for turn := 0; r.Tail < 5*n; turn++ {
				if r.Tail+count > r.Head+n {
					tell(t, "P10.2", reserveRefusal(r, count, api.ErrRingFull))
					head := r.Tail - turn%2*min(n-count, 1)
					tell(t, "P10.3", freeFault(r, head))
					r, _ = Free(r, head)
				}
				r = fill(t, r, count, turn)
				inRing(t, r)
			}
		}
	}
}

// calls: each call that answers a ring, once done and once refused; what New answers too.
func calls() []func(r api.Ring) api.Ring {
	return []func(r api.Ring) api.Ring{
		func(r api.Ring) api.Ring { x, _, _ := Reserve(r, 1); return x },
		func(r api.Ring) api.Ring { x, _, _ := Reserve(r, 16); return x },
		func(r api.Ring) api.Ring { x, _, _ := Reserve(r, 17); return x },
		func(r api.Ring) api.Ring { x, _ := Publish(r, r.Head, api.Op{Code: 1, Row: 3, Arg: 5}, 2); return x },
		func(r api.Ring) api.Ring { x, _ := Publish(r, r.Tail, api.Op{}, 0); return x },
		func(r api.Ring) api.Ring { x, _ := Free(r, r.Head); return x },
		func(r api.Ring) api.Ring { x, _ := Free(r, r.Tail); return x },
		func(r api.Ring) api.Ring { x, _ := Free(r, r.Tail+1); return x },
		func(r api.Ring) api.Ring { x, _ := New(len(r.Slots)); return x },
		func(r api.Ring) api.Ring { May(r); return api.Ring{} },
		func(r api.Ring) api.Ring { Entry(r, r.Head); return api.Ring{} },
	}
}

func TestNoMemoryIsShared(t *testing.T) {
	for _, n := range samples.SlotCounts() {
		for i, call := range calls() {
			plain := samples.Ring(n, n+1, n+2)
			want := call(samples.CopiedRing(plain))
			r, room := samples.RoomyRing(plain)
			old := slices.Clone(room)
			x := call(r)
			if !slices.Equal(room, old) {
				t.Errorf("R4: call %d of %s: what was given is changed, or its spare room", i, text(plain))
			}
			again := call(r)
			samples.ScribbleRing(x)
			if !slices.Equal(room, old) {
				t.Errorf("R4: call %d of %s: memory that was given is answered", i, text(plain))
			}
			samples.ScribbleRing(r)
			if !samples.SameRing(again, want) {
				t.Errorf("R4: call %d of %s: an answer turns with another one, or with what was given", i, text(plain))
			}
		}
	}
}

func TestAnswersHangOnNothingElse(t *testing.T) {
	r := samples.Ring(4, 3, 6)
	full := samples.Ring(4, 3, 7)
	faults := samples.Together(func() string {
		for range 200 {
			for _, fault := range []string{
				reserveFault(r, 1), reserveRefusal(full, 1, api.ErrRingFull), publishFault(r, 5, api.Op{Code: 1}, 3, 0), publishRefusal(r, 6, api.Op{}, 0),
				entryFault(r, 4, r.Slots[0]), entryRefusal(r, 6, api.ErrRingEmpty), freeFault(r, 5), freeRefusal(r, 7),
			} {
				if fault != "" {
					return fault
				}
			}
		}
		return ""
	})
	for _, fault := range faults {
		t.Errorf("R5: %s", fault)
	}
}
