package slot

import (
	"math"
	"slices"
	"strconv"
	"testing"

	"chorus/api"
	"chorus/samples"
)

// wrongNumbers: how many there may not be; some of them may be if bits or the sign were lost.
func wrongNumbers() []int {
	all := []int{math.MinInt, math.MinInt + 2, -1 << 32, -256, -32, -16, -8, -4, -2, -1, 0, 1, 31, 32, 33, 64, 128, 255, 256, 258, 260, 272, 1 << 16, 1 << 20, 1<<32 + 2, 1<<32 + 16, 1 << 62, math.MaxInt}
	for slots := 3; slots < 32; slots++ {
		if !slices.Contains(samples.SlotCounts(), slots) {
			all = append(all, slots)
		}
	}
	return all
}

// somePlaces: the first ones, those at the turns of laps, and the last ones.
func somePlaces() []int {
	return []int{0, 1, 2, 3, 4, 5, 7, 8, 9, 15, 16, 17, 31, 32, 33, 1000, 65535, 65536, api.MaxCell - 16, api.MaxCell - 1, api.MaxCell}
}

// wrongPlaces: where no entry may be; some of them may be if bits or the sign were lost.
func wrongPlaces() []int {
	return []int{math.MinInt, math.MinInt + 1, -1 << 32, -api.MaxCell - 1, -api.MaxCell, -16, -2, -1, api.MaxCell + 1, api.MaxCell + 2, api.MaxCell + 16, 2 * api.MaxCell, 1 << 32, 1<<32 + 1, 1 << 62, math.MaxInt}
}

// wrongBits: what no slot's bit is; some of them are if bits or the sign were lost.
func wrongBits() []int {
	return []int{math.MinInt, -1 << 32, -256, -2, -1, 2, 3, 4, 255, 256, 257, 1 << 32, 1<<32 + 1, math.MaxInt - 1, math.MaxInt}
}

// someSlots: slots with this bit, whatever else they have: what a ring may hold, and what it may not.
func someSlots(bit int) []api.Slot {
	return []api.Slot{
		{Bit: bit},
		{Op: api.Op{Code: api.CodeFirst, Row: 3, Arg: 255}, Thread: 3, Bit: bit},
		{Op: api.Op{Code: api.CodeSecond, Row: 1, Arg: 1}, Thread: 1, Bit: bit},
		{Op: api.Op{Code: api.CodeLook, Row: 2}, Thread: 2, Bit: bit},
		{Op: api.Op{Code: api.CodeScan}, Bit: bit},
		{Op: api.Op{Code: -1, Row: 4, Arg: 256}, Thread: 4, Bit: bit},
		{Op: api.Op{Code: math.MaxInt, Row: math.MinInt, Arg: math.MinInt}, Thread: math.MinInt, Bit: bit},
		{Op: api.Op{Code: 1 - bit, Row: 1 - bit, Arg: 1 - bit}, Thread: 1 - bit, Bit: bit},
	}
}

// bitFault: "", if Bit answers this bit, and slots are alive there by it alone; else what is answered.
func bitFault(at, slots, want int) string {
	if got, e := Bit(at, slots); got != want || e != api.OK {
		return "Bit: " + strconv.Itoa(got) + ", " + strconv.Itoa(int(e))
	}
	for _, bit := range []int{0, 1} {
		if fault := aliveFault(bit, at, slots, bit == want); fault != "" {
			return fault
		}
	}
	return ""
}

// aliveFault: "", if Alive answers this of each slot with the bit; else what it answers.
func aliveFault(bit, at, slots int, want bool) string {
	for _, s := range someSlots(bit) {
		if is, e := Alive(s, at, slots); is != want || e != api.OK {
			return "Alive of bit " + strconv.Itoa(bit) + ": " + strconv.FormatBool(is) + ", " + strconv.Itoa(int(e))
		}
	}
	return ""
}

// refusal: "", if both calls answer the error alone; else what they answer.
func refusal(at, slots int) string {
	if got, e := Bit(at, slots); got != 0 || e != api.ErrSlotForm {
		return "Bit: " + strconv.Itoa(got) + ", " + strconv.Itoa(int(e))
	}
	for _, bit := range append(wrongBits(), 0, 1) {
		for _, s := range someSlots(bit) {
			if is, e := Alive(s, at, slots); is || e != api.ErrSlotForm {
				return "Alive of bit " + strconv.Itoa(bit) + ": " + strconv.FormatBool(is) + ", " + strconv.Itoa(int(e))
			}
		}
	}
	return ""
}

func TestBitsWrittenOut(t *testing.T) {
	for _, x := range []struct{ slots, at, want int }{
		{2, 0, 1}, {2, 1, 1}, {2, 2, 0}, {2, 3, 0}, {2, 4, 1}, {2, 5, 1}, {2, 6, 0}, {2, 7, 0}, {2, 8, 1},
		{4, 0, 1}, {4, 3, 1}, {4, 4, 0}, {4, 7, 0}, {4, 8, 1}, {4, 11, 1}, {4, 12, 0}, {4, 15, 0}, {4, 16, 1},
		{8, 0, 1}, {8, 7, 1}, {8, 8, 0}, {8, 15, 0}, {8, 16, 1}, {8, 23, 1}, {8, 24, 0}, {8, 31, 0}, {8, 32, 1},
		{16, 0, 1}, {16, 15, 1}, {16, 16, 0}, {16, 31, 0}, {16, 32, 1}, {16, 47, 1}, {16, 48, 0}, {16, 63, 0}, {16, 64, 1},
		{2, 1048574, 0}, {2, 1048575, 0}, {2, 1048576, 1},
		{4, 1048572, 0}, {4, 1048575, 0}, {4, 1048576, 1},
		{8, 1048568, 0}, {8, 1048575, 0}, {8, 1048576, 1},
		{16, 1048559, 1}, {16, 1048560, 0}, {16, 1048575, 0}, {16, 1048576, 1},
	} {
		if fault := bitFault(x.at, x.slots, x.want); fault != "" {
			t.Errorf("P9.1: %d of %d: %s; want %d", x.at, x.slots, fault, x.want)
		}
	}
}

func TestBitsTurnWithEachLap(t *testing.T) {
	for _, slots := range samples.SlotCounts() {
		at := 0
		for lap := range 9 {
			for range slots {
				want := []int{1, 0}[lap%2]
				if fault := bitFault(at, slots, want); fault != "" {
					t.Errorf("P9.1: %d of %d, in lap %d: %s; want %d", at, slots, lap, fault, want)
				}
				at++
			}
		}
	}
}

func TestBitsOfEveryPlace(t *testing.T) {
	for _, slots := range samples.SlotCounts() {
		want, left := 1, slots
		for at := 0; at <= 1048576; at++ {
			if left == 0 {
				want, left = 1-want, slots
			}
			left--
			if got, e := Bit(at, slots); got != want || e != api.OK {
				t.Fatalf("P9.1: %d of %d: %d, %d; want %d", at, slots, got, e, want)
			}
		}
	}
}

func TestWhatALapLeftIsNotAliveInTheNextOne(t *testing.T) {
	for _, slots := range samples.SlotCounts() {
		for at := range 6 * slots {
			bit, _ := Bit(at, slots)
			for later, want := range []bool{true, false, true, false} {
				if fault := aliveFault(bit, at+later*slots, slots, want); fault != "" {
					t.Errorf("P9.1: of %d, written at %d, %d laps later: %s", slots, at, later, fault)
				}
			}
		}
	}
}

func TestASlotThatWasNeverWrittenTo(t *testing.T) {
	for _, slots := range samples.SlotCounts() {
		for at := range slots {
			if is, e := Alive(api.Slot{}, at, slots); is || e != api.OK {
				t.Errorf("P9.1: %d of %d: %t, %d", at, slots, is, e)
			}
		}
	}
}

func TestABitThatIsNoneIsAliveNowhere(t *testing.T) {
	for _, slots := range samples.SlotCounts() {
		for _, at := range somePlaces() {
			for _, bit := range wrongBits() {
				if fault := aliveFault(bit, at, slots, false); fault != "" {
					t.Errorf("P9.1: %d of %d: %s", at, slots, fault)
				}
			}
		}
	}
}

func TestNumbersOfSlotsThatMayNotBe(t *testing.T) {
	for _, slots := range wrongNumbers() {
		for _, at := range slices.Concat(somePlaces(), wrongPlaces()) {
			if fault := refusal(at, slots); fault != "" {
				t.Errorf("P9.1: %d of %d: %s", at, slots, fault)
			}
		}
	}
}

func TestPlacesThatMayNotBe(t *testing.T) {
	for _, slots := range samples.SlotCounts() {
		for _, at := range wrongPlaces() {
			if fault := refusal(at, slots); fault != "" {
				t.Errorf("P9.1: %d of %d: %s", at, slots, fault)
			}
		}
	}
}

func TestAnswersHangOnNothingElse(t *testing.T) {
	faults := samples.Together(func() string {
		for range 200 {
			for _, fault := range []string{bitFault(21, 8, 1), refusal(21, 7), bitFault(21, 4, 0), refusal(-1, 16)} {
				if fault != "" {
					return fault
				}
			}
		}
		return ""
	})
	for _, fault := range faults {
		t.Errorf("R5: %s", fault)
	}
}
