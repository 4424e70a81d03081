package samples

import (
	"math"
	"slices"
	"testing"

	"chorus/api"
)

// unlikeNumbers: how many numbers of these Configs are not the same.
func unlikeNumbers(c, d api.Config) int {
	count := 0
	for _, x := range [][2]int{{c.Object, d.Object}, {c.Replicas, d.Replicas}, {c.Logs, d.Logs}, {c.Threads, d.Threads}, {c.Slots, d.Slots}} {
		if x[0] != x[1] {
			count++
		}
	}
	return count
}

func TestFairConfigsAreEachOneOnce(t *testing.T) {
	all := map[api.Config]int{}
	for _, c := range FairConfigs() {
		all[c]++
		if c.Slots < 2*c.Threads || c.Replicas*c.Logs*c.Threads < 1 {
			t.Errorf("%+v", c)
		}
	}
	if len(all) != 132 || len(FairConfigs()) != 132 {
		t.Errorf("%d, %d", len(all), len(FairConfigs()))
	}
}

func TestFewConfigsMayBe(t *testing.T) {
	objects := make([]int, 3)
	for _, c := range FewConfigs() {
		objects[c.Object]++
		if !slices.Contains(FairConfigs(), c) {
			t.Errorf("%+v", c)
		}
	}
	if slices.Contains(objects, 0) {
		t.Errorf("%v", objects)
	}
}

func TestWrongConfigsTurnOneNumberEach(t *testing.T) {
	fair := FairConfigs()
	for _, c := range FewConfigs() {
		for _, x := range WrongConfigs(c) {
			if unlikeNumbers(c, x) != 1 || slices.Contains(fair, x) {
				t.Errorf("%+v: %+v", c, x)
			}
		}
	}
}

func TestOutsideIsBelowAndAbove(t *testing.T) {
	for _, x := range [][2]int{{0, 0}, {0, 1}, {1, 2}, {0, 4}, {0, 19}, {5, 5}, {5, 21}, {0, 1048576}, {1048560, 1048576}} {
		all := Outside(x[0], x[1])
		for _, edge := range []int{x[0] - 1, x[1] + 1, math.MinInt, math.MaxInt} {
			if !slices.Contains(all, edge) {
				t.Errorf("%v: %d is not there", x, edge)
			}
		}
		if slices.ContainsFunc(all, func(n int) bool { return n >= x[0] && n <= x[1] }) {
			t.Errorf("%v: %v", x, all)
		}
	}
}
