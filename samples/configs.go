package samples

import (
	"math"
	"slices"

	"chorus/api"
)

// FairConfigs: every Config that may be.
func FairConfigs() []api.Config {
	var all []api.Config
	for _, object := range []int{0, 1, 2} {
		for _, replicas := range []int{1, 2} {
			for _, logs := range []int{1, 2} {
				for _, room := range fairRoom() {
					all = append(all, api.Config{Object: object, Replicas: replicas, Logs: logs, Threads: room[0], Slots: room[1]})
				}
			}
		}
	}
	return all
}

// fairRoom: how many threads there may be, with how many slots a log, written out.
func fairRoom() [][2]int {
	return [][2]int{
		{1, 2}, {1, 4}, {1, 8}, {1, 16},
		{2, 4}, {2, 8}, {2, 16},
		{3, 8}, {3, 16},
		{4, 8}, {4, 16},
	}
}

// FewConfigs: Configs that may be, at the edges and between them, each object among them.
func FewConfigs() []api.Config {
	return []api.Config{
		{Object: 0, Replicas: 1, Logs: 1, Threads: 1, Slots: 2},
		{Object: 1, Replicas: 2, Logs: 1, Threads: 1, Slots: 16},
		{Object: 2, Replicas: 1, Logs: 2, Threads: 2, Slots: 4},
		{Object: 0, Replicas: 2, Logs: 2, Threads: 3, Slots: 8},
		{Object: 1, Replicas: 2, Logs: 2, Threads: 4, Slots: 8},
		{Object: 2, Replicas: 2, Logs: 2, Threads: 4, Slots: 16},
	}
}

// WrongConfigs: Configs that may not be, though c may: in each of them one number is another.
func WrongConfigs(c api.Config) []api.Config {
	var all []api.Config
	with := func(numbers []int, turn func(x *api.Config, n int)) {
		for _, n := range numbers {
			x := c
			turn(&x, n)
			all = append(all, x)
		}
	}
	with(NoObjects(), func(x *api.Config, n int) { x.Object = n })
	with(Outside(1, 2), func(x *api.Config, n int) { x.Replicas = n })
	with(Outside(1, 2), func(x *api.Config, n int) { x.Logs = n })
	with(Outside(1, 4), func(x *api.Config, n int) { x.Threads = n })
	with(WrongSlotCounts(), func(x *api.Config, n int) { x.Slots = n })
	return all
}

// Outside: numbers below least and above most; some of them are between these if bits or the sign were lost.
func Outside(least, most int) []int {
	all := append(Far(), least-1, least-2, -least, -most, most+1, most+2, -1, 255, 256, 257, 258, 1<<31, 1<<32+least, 1<<61, 1<<61+1, -1<<62, -1<<62+1, math.MinInt+2)
	return slices.DeleteFunc(all, func(x int) bool { return x >= least && x <= most })
}
