package cell

import (
	"math"
	"slices"
	"strconv"
	"sync"
	"testing"

	"chorus/api"
)

// place is cells, and a place that they may have or not.
type place struct {
	name string
	cs   []int
	at   int
}

// cells: n cells, each with x.
func cells(n int, x int) []int {
	return slices.Repeat([]int{x}, n)
}

// goodPlaces: ordinary ones, and the edges at which a call is still answered.
func goodPlaces() []place {
	return []place{
		{"one cell", []int{7}, 0},
		{"first of three", []int{7, 8, 9}, 0},
		{"middle of three", []int{7, 8, 9}, 1},
		{"last of three", []int{7, 8, 9}, 2},
		{"first of the most", cells(api.MaxCells, 5), 0},
		{"last of the most", cells(api.MaxCells, 5), api.MaxCells - 1},
		{"the least number", []int{3, 0}, 1},
		{"the greatest number", []int{api.MaxCell, 3}, 0},
		{"the most cells, the greatest numbers", cells(api.MaxCells, api.MaxCell), 8},
	}
}

// badPlaces: cells that may not be, and places that there are not.
func badPlaces() []place {
	return []place{
		{"nil", nil, 0},
		{"no cells", []int{}, 0},
		{"no cells, place -1", []int{}, -1},
		{"just ahead of the first", []int{7, 8, 9}, -1},
		{"just behind the last", []int{7, 8, 9}, 3},
		{"in the spare room", make([]int, 2, 8), 2},
		{"far ahead", []int{7, 8, 9}, math.MinInt},
		{"far behind", []int{7, 8, 9}, math.MaxInt},
		{"just behind the most", cells(api.MaxCells, 5), api.MaxCells},
		{"one cell too many, first", cells(api.MaxCells+1, 5), 0},
		{"one cell too many, last", cells(api.MaxCells+1, 5), api.MaxCells},
		{"far too many", cells(1000, 5), 3},
		{"below 0 there", []int{7, -1}, 1},
		{"below 0 elsewhere", []int{-1, 7}, 1},
		{"below 0 at the end", []int{7, 8, -1}, 0},
		{"above MaxCell there", []int{api.MaxCell + 1, 7}, 0},
		{"above MaxCell elsewhere", []int{7, api.MaxCell + 1}, 0},
		{"the least int", []int{7, math.MinInt}, 0},
		{"the greatest int", []int{math.MaxInt, 7}, 1},
	}
}

// goodNumbers: what a cell may hold.
func goodNumbers() []int {
	return []int{0, 1, 42, api.MaxCell - 1, api.MaxCell}
}

// badNumbers: what no cell may hold.
func badNumbers() []int {
	return []int{-1, api.MaxCell + 1, -api.MaxCell, math.MinInt, math.MaxInt}
}

// put: cs with x at its place, made without the package.
func put(cs []int, at int, x int) []int {
	ds := append([]int{}, cs...)
	ds[at] = x
	return ds
}

func TestLoad(t *testing.T) {
	for _, p := range goodPlaces() {
		if x, e := Load(p.cs, p.at); x != p.cs[p.at] || e != api.OK {
			t.Errorf("P1.1: %s: Load %d, %d", p.name, x, e)
		}
	}
	for _, p := range badPlaces() {
		if x, e := Load(p.cs, p.at); x != 0 || e != api.ErrCellForm {
			t.Errorf("P1.1: %s: Load %d, %d", p.name, x, e)
		}
	}
}

func TestLoadTellsThePlaceAskedFor(t *testing.T) {
	cs := []int{10, 11, 12, 13}
	for at, want := range cs {
		if x, e := Load(cs, at); x != want || e != api.OK {
			t.Errorf("P1.1: Load at %d: %d, %d", at, x, e)
		}
	}
}

func TestStore(t *testing.T) {
	for _, p := range goodPlaces() {
		for _, x := range goodNumbers() {
			if ds, e := Store(p.cs, p.at, x); !slices.Equal(ds, put(p.cs, p.at, x)) || e != api.OK {
				t.Errorf("P1.1: %s: Store %d: %v, %d", p.name, x, ds, e)
			}
		}
		for _, x := range badNumbers() {
			if ds, e := Store(p.cs, p.at, x); ds != nil || e != api.ErrCellForm {
				t.Errorf("P1.1: %s: Store %d: %v, %d", p.name, x, ds, e)
			}
		}
	}
	for _, p := range badPlaces() {
		for _, x := range append(goodNumbers(), badNumbers()...) {
			if ds, e := Store(p.cs, p.at, x); ds != nil || e != api.ErrCellForm {
				t.Errorf("P1.1: %s: Store %d: %v, %d", p.name, x, ds, e)
			}
		}
	}
}

func TestSwapThatIsDone(t *testing.T) {
	for _, p := range goodPlaces() {
		for _, x := range goodNumbers() {
			ds, done, e := Swap(p.cs, p.at, p.cs[p.at], x)
			if !slices.Equal(ds, put(p.cs, p.at, x)) || !done || e != api.OK {
				t.Errorf("P1.2: %s: Swap to %d: %v, %t, %d", p.name, x, ds, done, e)
			}
		}
	}
}

func TestSwapToTheSameIsDone(t *testing.T) {
	if ds, done, e := Swap([]int{4, 5}, 1, 5, 5); !slices.Equal(ds, []int{4, 5}) || !done || e != api.OK {
		t.Errorf("P1.2: %v, %t, %d", ds, done, e)
	}
}

func TestSwapThatIsNotDone(t *testing.T) {
	for _, p := range goodPlaces() {
		// What no cell may hold is never there, and asking for it is no error.
		olds := append(badNumbers(), p.cs[p.at]-1, p.cs[p.at]+1)
		for _, old := range olds {
			ds, done, e := Swap(p.cs, p.at, old, 42)
			if !slices.Equal(ds, p.cs) || done || e != api.OK {
				t.Errorf("P1.2: %s: Swap from %d: %v, %t, %d", p.name, old, ds, done, e)
			}
		}
	}
	if ds, done, e := Swap([]int{4, 5}, 1, 4, 9); !slices.Equal(ds, []int{4, 5}) || done || e != api.OK {
		t.Errorf("P1.2: old is elsewhere: %v, %t, %d", ds, done, e)
	}
}

func TestSwapRefuses(t *testing.T) {
	for _, p := range goodPlaces() {
		for _, x := range badNumbers() {
			for _, old := range []int{p.cs[p.at], p.cs[p.at] + 1} {
				if ds, done, e := Swap(p.cs, p.at, old, x); ds != nil || done || e != api.ErrCellForm {
					t.Errorf("P1.2: %s: Swap from %d to %d: %v, %t, %d", p.name, old, x, ds, done, e)
				}
			}
		}
	}
	for _, p := range badPlaces() {
		for _, old := range []int{-1, 0, 5, 7, 8, 9, api.MaxCell + 1} {
			if ds, done, e := Swap(p.cs, p.at, old, 42); ds != nil || done || e != api.ErrCellForm {
				t.Errorf("P1.2: %s: Swap from %d: %v, %t, %d", p.name, old, ds, done, e)
			}
		}
	}
}

func TestAdd(t *testing.T) {
	for _, p := range goodPlaces() {
		was := p.cs[p.at]
		for _, x := range append(goodNumbers(), was) {
			ds, before, e := Add(p.cs, p.at, x-was)
			if !slices.Equal(ds, put(p.cs, p.at, x)) || before != was || e != api.OK {
				t.Errorf("P1.2: %s: Add %d: %v, %d, %d", p.name, x-was, ds, before, e)
			}
		}
	}
}

func TestAddRefuses(t *testing.T) {
	for _, p := range goodPlaces() {
		was := p.cs[p.at]
		// The greatest int would wrap round to below 0, the least one stays below it.
		for _, by := range []int{-1 - was, api.MaxCell + 1 - was, math.MinInt, math.MinInt + 1, math.MaxInt} {
			if ds, before, e := Add(p.cs, p.at, by); ds != nil || before != 0 || e != api.ErrCellForm {
				t.Errorf("P1.2: %s: Add %d: %v, %d, %d", p.name, by, ds, before, e)
			}
		}
	}
	for _, p := range badPlaces() {
		for _, by := range []int{0, 1, -1, math.MinInt, math.MaxInt} {
			if ds, before, e := Add(p.cs, p.at, by); ds != nil || before != 0 || e != api.ErrCellForm {
				t.Errorf("P1.2: %s: Add %d: %v, %d, %d", p.name, by, ds, before, e)
			}
		}
	}
}

// call is one of the calls that answer cells.
type call struct {
	name string
	do   func(cs []int, at int) []int
}

func listCalls() []call {
	return []call{
		{"Store", func(cs []int, at int) []int { ds, _ := Store(cs, at, 3); return ds }},
		{"Swap, done", func(cs []int, at int) []int { ds, _, _ := Swap(cs, at, 5, 3); return ds }},
		{"Swap, not done", func(cs []int, at int) []int { ds, _, _ := Swap(cs, at, 6, 3); return ds }},
		{"Add", func(cs []int, at int) []int { ds, _, _ := Add(cs, at, 2); return ds }},
		{"Add 0", func(cs []int, at int) []int { ds, _, _ := Add(cs, at, 0); return ds }},
	}
}

func TestArgumentsStayAsTheyAre(t *testing.T) {
	for _, c := range listCalls() {
		for n := 1; n <= api.MaxCells; n++ {
			whole := cells(n+4, 5)
			for at := range n {
				Load(whole[:n], at)
				c.do(whole[:n], at)
			}
			if !slices.Equal(whole, cells(n+4, 5)) {
				t.Errorf("R4: %s: of %d cells and 4 spare ones: %v", c.name, n, whole)
			}
		}
	}
}

func TestAnswersShareNoMemory(t *testing.T) {
	for _, c := range listCalls() {
		for n := 1; n <= api.MaxCells; n++ {
			whole := cells(n+4, 5)
			one, two := c.do(whole[:n], 0), c.do(whole[:n], 0)
			want := slices.Clone(two)
			spoil(one)
			if !slices.Equal(whole, cells(n+4, 5)) || !slices.Equal(two, want) {
				t.Errorf("R4: %s: %d cells: shared", c.name, n)
			}
		}
	}
}

// spoil writes over a list and its spare room.
func spoil(xs []int) {
	xs = xs[:cap(xs)]
	for i := range xs {
		xs[i] = -99
	}
}

func TestAnswersHangOnNothingElse(t *testing.T) {
	cs := []int{1, 2, 3, 4}
	faults := make([]string, 8)
	var wait sync.WaitGroup
	for i := range faults {
		wait.Go(func() { faults[i] = callAll(cs, 200) })
	}
	wait.Wait()
	for _, fault := range faults {
		if fault != "" {
			t.Error("R5: " + fault)
		}
	}
}

// callAll calls all of them of the same cells, again and again; "" if each answer is the same every time.
func callAll(cs []int, times int) string {
	for n := range times {
		x, _ := Load(cs, 2)
		stored, _ := Store(cs, 2, 9)
		swapped, done, _ := Swap(cs, 2, 3, 8)
		added, was, _ := Add(cs, 2, 4)
		if x != 3 || !slices.Equal(stored, []int{1, 2, 9, 4}) || !done ||
			!slices.Equal(swapped, []int{1, 2, 8, 4}) || was != 3 || !slices.Equal(added, []int{1, 2, 7, 4}) {
			return "another answer at call " + strconv.Itoa(n)
		}
	}
	return ""
}
