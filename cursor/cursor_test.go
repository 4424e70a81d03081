package cursor

import (
	"math"
	"slices"
	"strconv"
	"testing"

	"chorus/api"
	"chorus/samples"
)

// below: numbers below 0; some of them are not if bits or the sign were lost.
func below() []int {
	return []int{-1, -2, -16, -255, -256, -api.MaxCell, -1 << 31, -1 << 32, -1<<32 + 1, -1 << 62, math.MinInt + 1, math.MinInt}
}

// someHeads: where a ring of n slots may begin, laps' turns and the last places among them.
func someHeads(n int) []int {
	return []int{0, 1, n - 1, n, n + 1, 5*n + 3, api.MaxCell - n, api.MaxCell - 1, api.MaxCell}
}

// roomy: the same numbers, with room behind them; all of that room.
func roomy(xs []int) ([]int, []int) {
	room := append(slices.Clone(xs), slices.Repeat([]int{-77}, 9)...)
	return room[:len(xs)], room
}

// rows: every row of as many as one to three, out of these.
func rows(numbers ...int) [][]int {
	return slices.DeleteFunc(samples.Rows(numbers...), func(row []int) bool { return len(row) == 0 || len(row) == 4 })
}

// leastFault: "", if Least answers this, and leaves what it is given as it was; else what it does.
func leastFault(xs []int, want int, err api.Errno) string {
	given, room := roomy(xs)
	old := slices.Clone(room)
	if got, e := Least(given); got != want || e != err {
		return "Least: " + strconv.Itoa(got) + ", " + strconv.Itoa(int(e)) + "; want " + strconv.Itoa(want) + ", " + strconv.Itoa(int(err))
	}
	if !slices.Equal(room, old) {
		return "Least: what was given is changed, or its spare room"
	}
	return ""
}

// mayFault: "", if May answers this, and leaves what it is given as it was; else what it does.
func mayFault(r api.Ring, xs []int, want bool) string {
	given, room := roomy(xs)
	old := slices.Clone(room)
	log, slots := samples.RoomyRing(r)
	was := slices.Clone(slots)
	if got := May(log, given); got != want {
		return "May: " + strconv.FormatBool(got)
	}
	if !slices.Equal(room, old) || !slices.Equal(slots, was) {
		return "May: what was given is changed, or its spare room"
	}
	return ""
}

// tellLeast reports a fault of Least, if there is one.
func tellLeast(t *testing.T, xs []int, want int, err api.Errno) {
	t.Helper()
	if fault := leastFault(xs, want, err); fault != "" {
		t.Errorf("P11.1: %v: %s", xs, fault)
	}
}

// tellMay reports a fault of May, if there is one.
func tellMay(t *testing.T, r api.Ring, xs []int, want bool) {
	t.Helper()
	if fault := mayFault(r, xs, want); fault != "" {
		t.Errorf("P11.1: %v, %v: %s", r, xs, fault)
	}
}

func TestLeastWrittenOut(t *testing.T) {
	for _, x := range []struct {
		xs   []int
		want int
	}{
		{[]int{0}, 0}, {[]int{1}, 1}, {[]int{7}, 7}, {[]int{1048575}, 1048575}, {[]int{1048576}, 1048576}, {[]int{1048577}, 1048577}, {[]int{math.MaxInt}, math.MaxInt},
		{[]int{0, 0}, 0}, {[]int{0, 9}, 0}, {[]int{9, 0}, 0}, {[]int{3, 4}, 3}, {[]int{4, 3}, 3}, {[]int{5, 5}, 5},
		{[]int{2, 8, 9}, 2}, {[]int{8, 2, 9}, 2}, {[]int{9, 8, 2}, 2}, {[]int{8, 9, 8}, 8}, {[]int{6, 6, 6}, 6}, {[]int{6, 0, 6}, 0},
		{[]int{12, 30, 5, 17, 5, 40}, 5}, {[]int{10, 9, 8, 7, 6, 5, 4, 3, 2, 1}, 1}, {[]int{1, 2, 3, 4, 5, 6, 7, 8, 9, 10}, 1},
		{[]int{100, 20, 3}, 3}, {[]int{9, 10}, 9}, {[]int{256, 1}, 1}, {[]int{257, 2}, 2}, {[]int{1 << 32, 5}, 5}, {[]int{1<<32 + 1, 6}, 6},
		{[]int{math.MaxInt, math.MaxInt - 1}, math.MaxInt - 1}, {[]int{math.MaxInt, 0, math.MaxInt}, 0}, {[]int{math.MaxInt, math.MaxInt}, math.MaxInt},
	} {
		tellLeast(t, x.xs, x.want, api.OK)
	}
}

func TestLeastAtEachPlace(t *testing.T) {
	for n := 1; n <= 20; n++ {
		for at := range n {
			for again := range n {
				xs := make([]int, n)
				for i := range xs {
					xs[i] = 50 + i*7%n
				}
				xs[at], xs[again] = 33, 33
				tellLeast(t, xs, 33, api.OK)
				xs[at], xs[again] = 0, 0
				tellLeast(t, xs, 0, api.OK)
			}
		}
	}
}

func TestLeastOfEveryRow(t *testing.T) {
	for _, xs := range rows(0, 1, 2, 3, 15, 16, 255, 256, api.MaxCell) {
		sorted := slices.Sorted(slices.Values(xs))
		tellLeast(t, xs, sorted[0], api.OK)
	}
}

func TestLeastOfALongRow(t *testing.T) {
	xs := make([]int, 100000)
	for i := range xs {
		xs[i] = 9 + i*7919%len(xs)
	}
	tellLeast(t, xs, 9, api.OK)
	xs[len(xs)-1] = -1
	tellLeast(t, xs, 0, api.ErrCursorForm)
}

func TestLeastOfNone(t *testing.T) {
	for _, xs := range [][]int{nil, {}, []int{5, 6}[:0]} {
		if got, e := Least(xs); got != 0 || e != api.ErrCursorForm {
			t.Errorf("P11.1: %#v: %d, %d", xs, got, e)
		}
		tellLeast(t, xs, 0, api.ErrCursorForm)
	}
}

func TestOneBelowZeroIsRefusedAtEachPlace(t *testing.T) {
	for n := 1; n <= 6; n++ {
		for at := range n {
			for _, x := range below() {
				for _, other := range []int{0, 1, 7, api.MaxCell, math.MaxInt} {
					xs := slices.Repeat([]int{other}, n)
					xs[at] = x
					tellLeast(t, xs, 0, api.ErrCursorForm)
				}
			}
		}
	}
	for _, x := range below() {
		for _, other := range below() {
			tellLeast(t, []int{x, other}, 0, api.ErrCursorForm)
			tellLeast(t, []int{x, 0, other}, 0, api.ErrCursorForm)
		}
	}
}

func TestMayWrittenOut(t *testing.T) {
	for _, x := range []struct {
		n, head, tail int
		xs            []int
		want          bool
	}{
		{2, 0, 0, []int{0}, true}, {2, 0, 0, []int{0, 0}, true}, {2, 0, 0, []int{1}, false}, {2, 0, 0, []int{-1}, false}, {2, 0, 2, []int{2, 1, 0}, true}, {2, 0, 2, []int{2, 3, 0}, false},
		{4, 3, 6, []int{3, 6}, true}, {4, 3, 6, []int{6, 3}, true}, {4, 3, 6, []int{4}, true}, {4, 3, 6, []int{5, 5, 5, 5}, true}, {4, 3, 6, []int{2, 6}, false}, {4, 3, 6, []int{3, 7}, false}, {4, 3, 6, []int{0}, false},
		{8, 9, 17, []int{9, 17, 13, 10}, true}, {8, 9, 17, []int{9, 17, 8, 10}, false}, {8, 9, 17, []int{18, 9}, false}, {8, 5, 5, []int{5, 5}, true}, {8, 5, 5, []int{5, 6}, false}, {8, 5, 5, []int{4, 5}, false},
		{16, 30, 33, []int{31, 32}, true}, {16, 30, 33, []int{34}, false}, {16, 30, 33, []int{46}, false}, {16, 30, 33, []int{14, 15}, false},
		{16, 1048560, 1048576, []int{1048560, 1048576}, true}, {16, 1048560, 1048576, []int{1048577}, false}, {16, 1048576, 1048576, []int{1048576}, true}, {16, 1048576, 1048576, []int{1048575}, false},
	} {
		tellMay(t, samples.Ring(x.n, x.head, x.tail), x.xs, x.want)
	}
}

func TestMayOfEachPlaceInEachRoom(t *testing.T) {
	for _, n := range samples.SlotCounts() {
		for _, head := range someHeads(n) {
			for tail := head; tail <= min(head+n, api.MaxCell); tail++ {
				r := samples.Ring(n, head, tail)
				for x := head - n - 1; x <= tail+n+1; x++ {
					tellMay(t, r, []int{x}, x >= head && x <= tail)
				}
			}
		}
	}
}

func TestMayOfEveryRow(t *testing.T) {
	for _, n := range samples.SlotCounts() {
		for in := range 3 {
			r := samples.Ring(n, 6, 6+in)
			for _, xs := range rows(0, 4, 5, 6, 7, 8, 9, 10) {
				outside := slices.ContainsFunc(xs, func(x int) bool { return x < 6 || x > 6+in })
				tellMay(t, r, xs, !outside)
			}
		}
	}
}

func TestOneCursorOutsideAtEachPlace(t *testing.T) {
	for _, n := range samples.SlotCounts() {
		for _, head := range someHeads(n) {
			tail := min(head+n, api.MaxCell)
			r := samples.Ring(n, head, tail)
			for count := 1; count <= 4; count++ {
				xs := make([]int, count)
				for i := range xs {
					xs[i] = head + i*3%(tail-head+1)
				}
				tellMay(t, r, xs, true)
				for at := range xs {
					for _, x := range append(below(), head-1, head-2, head-n, tail+1, tail+2, tail+n, api.MaxCell+1, 1<<32+head, math.MaxInt-1, math.MaxInt) {
						wrong := slices.Clone(xs)
						wrong[at] = x
						tellMay(t, r, wrong, false)
					}
				}
			}
		}
	}
}

func TestNoCursorsAtAll(t *testing.T) {
	for _, n := range samples.SlotCounts() {
		for _, head := range someHeads(n) {
			for _, tail := range []int{head, min(head+1, api.MaxCell), min(head+n, api.MaxCell)} {
				r := samples.Ring(n, head, tail)
				if !May(r, nil) || !May(r, []int{}) || !May(r, []int{-1, 2}[:0]) {
					t.Errorf("P11.1: %v: none of them may be", r)
				}
			}
		}
	}
}

func TestManyCursors(t *testing.T) {
	xs := make([]int, 100000)
	for i := range xs {
		xs[i] = 3 + i%4
	}
	r := samples.Ring(4, 3, 6)
	if !May(r, xs) {
		t.Errorf("P11.1: they may not be")
	}
	xs[len(xs)-1] = 7
	if May(r, xs) {
		t.Errorf("P11.1: the last one may be")
	}
}

func TestAnyFenceAndAnySlotsOfARingThatMayBe(t *testing.T) {
	for _, n := range samples.SlotCounts() {
		for fence := range 5 {
			for _, o := range samples.Updates() {
				r := samples.Ring(n, 7, 9)
				r.Fence, r.Slots[n-1].Op = fence, o
				tellMay(t, r, []int{7, 8, 9}, true)
				tellMay(t, r, []int{7, 8, 10}, false)
			}
		}
	}
}

// somewhere: rows of cursors that may be in r, were it not for r: none at all, its Head, its Tail, both of them.
func somewhere(r api.Ring) [][]int {
	return [][]int{nil, {}, {r.Head}, {r.Tail}, {r.Head, r.Tail}, {r.Tail, r.Head}}
}

func TestRingsThatMayNotBe(t *testing.T) {
	for _, n := range samples.SlotCounts() {
		fair := samples.Ring(n, n+1, n+2)
		for _, r := range samples.WrongRings(fair) {
			for _, xs := range append(somewhere(r), somewhere(fair)...) {
				tellMay(t, r, xs, false)
			}
			tellMay(t, r, []int{0}, false)
			tellMay(t, r, []int{r.Head - 1}, false)
		}
	}
}

func TestNumbersOfSlotsThatMayNotBe(t *testing.T) {
	for _, n := range samples.WrongSlotCounts() {
		if n < 0 || n > 1<<16 {
			continue
		}
		for _, tail := range []int{0, min(1, n), min(2, n)} {
			r := api.Ring{Tail: tail, Slots: make([]api.Slot, n)}
			for _, xs := range somewhere(r) {
				tellMay(t, r, xs, false)
			}
		}
	}
	for _, r := range []api.Ring{{}, {Slots: []api.Slot{}}, {Tail: 1}, {Head: 3, Tail: 3}} {
		for _, xs := range somewhere(r) {
			if May(r, xs) {
				t.Errorf("P11.1: %v, %v: they may be", r, xs)
			}
		}
	}
}

func TestAnswersHangOnNothingElse(t *testing.T) {
	r, xs := samples.Ring(4, 3, 6), []int{5, 3, 6, 4}
	full := samples.Ring(4, 3, 7)
	wrong := samples.RingWith(r, func(x *api.Ring) { x.Fence = 5 })
	faults := samples.Together(func() string {
		for range 200 {
			if least, e := Least(xs); least != 3 || e != api.OK {
				return "Least: " + strconv.Itoa(least) + ", " + strconv.Itoa(int(e))
			}
			if !May(r, xs) || May(wrong, xs) {
				return "May"
			}
			for _, fault := range []string{
				leastFault([]int{4, 2}, 2, api.OK), leastFault([]int{4, -2}, 0, api.ErrCursorForm), leastFault(nil, 0, api.ErrCursorForm),
				mayFault(r, []int{7}, false), mayFault(full, []int{7}, true), mayFault(wrong, nil, false), mayFault(r, nil, true),
			} {
				if fault != "" {
					return fault
				}
			}
		}
		return ""
	})
	for _, fault := range faults {
		t.Errorf("R5: %s", fault)
	}
}
