package lists

import (
	"math"
	"slices"
	"testing"

	"chorus/api"
)

func TestAllIsSoOfEachOne(t *testing.T) {
	even := func(x int) bool { return x%2 == 0 }
	for _, x := range []struct {
		list []int
		want bool
	}{
		{nil, true}, {[]int{}, true}, {[]int{2}, true}, {[]int{1}, false}, {[]int{2, 4, 6}, true},
		{[]int{1, 4, 6}, false}, {[]int{2, 3, 6}, false}, {[]int{2, 4, 5}, false}, {[]int{2, 4, 6, 1}[:3], true},
	} {
		if got := All(x.list, even); got != x.want {
			t.Errorf("%v: %t", x.list, got)
		}
	}
}

func TestCopyIsTheSameInMemoryOfItsOwn(t *testing.T) {
	if c := Copy([]int(nil)); c != nil {
		t.Errorf("of nil: %v", c)
	}
	room := []api.Slot{{Thread: 1}, {Thread: 2}, {Thread: 3}}
	for n := range len(room) {
		given, old := room[:n], slices.Clone(room)
		c := Copy(given)
		if !slices.Equal(c, given) {
			t.Errorf("of %v: %v", given, c)
		}
		c = c[:cap(c)]
		for i := range c {
			c[i].Thread = 9
		}
		if !slices.Equal(room, old) {
			t.Errorf("R4: of %v: what was given is changed: %v", given, room)
		}
	}
}

func TestCopyEachCopiesEachOne(t *testing.T) {
	if c := CopyEach(nil, Copy[int]); c != nil {
		t.Errorf("of nil: %v", c)
	}
	all := [][]int{{1, 2}, {3}, nil, {4, 5, 6}, {9}}
	for n := range all {
		given := all[:n]
		c := CopyEach(given, Copy[int])
		if !slices.EqualFunc(c, given, slices.Equal[[]int]) {
			t.Errorf("of %v: %v", given, c)
		}
		for i := range c {
			for j := range c[i] {
				c[i][j] = 0
			}
			c[i] = nil
		}
		c = append(c, []int{7})
		if want := [][]int{{1, 2}, {3}, nil, {4, 5, 6}, {9}}; !slices.EqualFunc(all, want, slices.Equal[[]int]) {
			t.Fatalf("R4: of %v: what was given is changed: %v", given, all)
		}
	}
}

func TestCopyEachAsksOfEachOne(t *testing.T) {
	double := func(x int) int { return 2 * x }
	if c := CopyEach([]int{3, 0, -4}, double); !slices.Equal(c, []int{6, 0, -8}) {
		t.Errorf("%v", c)
	}
}

func TestWhichTellsTheNumbers(t *testing.T) {
	for _, x := range []struct {
		list []string
		want []int
	}{
		{nil, nil}, {[]string{}, nil}, {[]string{"a"}, []int{0}}, {[]string{"b"}, nil},
		{[]string{"b", "a", "b", "a"}, []int{1, 3}}, {[]string{"a", "a", "a"}, []int{0, 1, 2}}, {[]string{"b", "a", "a"}[:2], []int{1}},
	} {
		if got := Which(x.list, func(at int, y string) bool { return y == "a" && y == x.list[at] }); !slices.Equal(got, x.want) {
			t.Errorf("%v: %v", x.list, got)
		}
	}
	if got := Which([]int{7, 7, 7, 7}, func(at int, x int) bool { return at%2 == 1 }); !slices.Equal(got, []int{1, 3}) {
		t.Errorf("by their numbers: %v", got)
	}
}

func TestHasIsFromNoneBelowHowMany(t *testing.T) {
	for n := range 5 {
		list := make([]string, n, 8)
		for at := range n {
			if !Has(list, at) {
				t.Errorf("of %d: %d: false", n, at)
			}
		}
		for _, at := range []int{-1, n, n + 1, 7, -n - 1, math.MinInt, math.MaxInt, 1 << 32, -1 << 32} {
			if Has(list, at) {
				t.Errorf("of %d: %d: true", n, at)
			}
		}
	}
}
