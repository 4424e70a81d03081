package config

import (
	"math"
	"slices"
	"strconv"
	"testing"

	"chorus/api"
	"chorus/samples"
)

// replicaFault: "", if Replica answers this; else what it answers.
func replicaFault(c api.Config, thread, want int, err api.Errno) string {
	if got, e := Replica(c, thread); got != want || e != err {
		return "Replica of thread " + strconv.Itoa(thread) + ": " + strconv.Itoa(got) + ", " + strconv.Itoa(int(e)) + "; want " + strconv.Itoa(want) + ", " + strconv.Itoa(int(err))
	}
	return ""
}

// fairFault: "", if c may be, and its threads are at its replicas by turns; else what is answered.
func fairFault(c api.Config) string {
	if !May(c) {
		return "May: false"
	}
	turns := [][]int{1: {0, 0, 0, 0}, 2: {0, 1, 0, 1}}[c.Replicas]
	for thread, want := range turns[:c.Threads] {
		if fault := replicaFault(c, thread, want, api.OK); fault != "" {
			return fault
		}
	}
	return ""
}

// wrongFault: "", if c may not be, and no thread of it is at a replica; else what is answered.
func wrongFault(c api.Config) string {
	if May(c) {
		return "May: true"
	}
	for _, thread := range []int{0, 1, 2, 3, -1, 4, c.Threads - 1, c.Threads, math.MinInt, math.MaxInt} {
		if fault := replicaFault(c, thread, 0, api.ErrConfigForm); fault != "" {
			return fault
		}
	}
	return ""
}

// tell reports a fault of P13.1, if there is one.
func tell(t *testing.T, c api.Config, fault string) {
	t.Helper()
	if fault != "" {
		t.Errorf("P13.1: %+v: %s", c, fault)
	}
}

func TestConfigsWrittenOut(t *testing.T) {
	for _, x := range []struct {
		c    api.Config
		want bool
	}{
		{api.Config{Object: 0, Replicas: 1, Logs: 1, Threads: 1, Slots: 2}, true},
		{api.Config{Object: 2, Replicas: 2, Logs: 2, Threads: 4, Slots: 16}, true},
		{api.Config{Object: 1, Replicas: 2, Logs: 1, Threads: 1, Slots: 16}, true},
		{api.Config{Object: 1, Replicas: 1, Logs: 2, Threads: 3, Slots: 8}, true},
		{api.Config{}, false},
		{api.Config{Object: -1, Replicas: 1, Logs: 1, Threads: 1, Slots: 2}, false},
		{api.Config{Object: 3, Replicas: 2, Logs: 2, Threads: 4, Slots: 16}, false},
		{api.Config{Replicas: 0, Logs: 1, Threads: 1, Slots: 2}, false},
		{api.Config{Replicas: 3, Logs: 2, Threads: 4, Slots: 16}, false},
		{api.Config{Replicas: 1, Logs: 0, Threads: 1, Slots: 2}, false},
		{api.Config{Replicas: 2, Logs: 3, Threads: 4, Slots: 16}, false},
		{api.Config{Replicas: 1, Logs: 1, Threads: 0, Slots: 2}, false},
		{api.Config{Replicas: 2, Logs: 2, Threads: 5, Slots: 16}, false},
		{api.Config{Replicas: 1, Logs: 1, Threads: 1, Slots: 1}, false},
		{api.Config{Replicas: 1, Logs: 1, Threads: 1, Slots: 3}, false},
		{api.Config{Replicas: 2, Logs: 2, Threads: 4, Slots: 15}, false},
		{api.Config{Replicas: 2, Logs: 2, Threads: 4, Slots: 17}, false},
		{api.Config{Replicas: 2, Logs: 2, Threads: 4, Slots: 32}, false},
		{api.Config{Replicas: 2, Logs: 2, Threads: 3, Slots: 6}, false},
	} {
		if got := May(x.c); got != x.want {
			t.Errorf("P13.1: %+v: May: %t", x.c, got)
		}
	}
}

func TestReplicasWrittenOut(t *testing.T) {
	for _, x := range []struct{ replicas, thread, want int }{
		{1, 0, 0}, {1, 1, 0}, {1, 2, 0}, {1, 3, 0},
		{2, 0, 0}, {2, 1, 1}, {2, 2, 0}, {2, 3, 1},
	} {
		c := api.Config{Object: api.ObjectFds, Replicas: x.replicas, Logs: 1, Threads: 4, Slots: 8}
		tell(t, c, replicaFault(c, x.thread, x.want, api.OK))
	}
}

func TestEveryConfigThatMayBe(t *testing.T) {
	all := samples.FairConfigs()
	if len(all) != 132 {
		t.Fatalf("%d of them", len(all))
	}
	for _, c := range all {
		tell(t, c, fairFault(c))
	}
}

func TestNoOtherConfigMayBe(t *testing.T) {
	fair := map[api.Config]int{}
	for _, c := range samples.FairConfigs() {
		fair[c]++
	}
	for object := -1; object <= 3; object++ {
		for replicas := -1; replicas <= 3; replicas++ {
			for logs := -1; logs <= 3; logs++ {
				for threads := -1; threads <= 9; threads++ {
					for slots := -2; slots <= 33; slots++ {
						c := api.Config{Object: object, Replicas: replicas, Logs: logs, Threads: threads, Slots: slots}
						if fair[c] == 0 {
							tell(t, c, wrongFault(c))
						}
					}
				}
			}
		}
	}
}

func TestOneNumberThatMayNotBe(t *testing.T) {
	for _, c := range samples.FairConfigs() {
		for _, x := range samples.WrongConfigs(c) {
			tell(t, x, wrongFault(x))
		}
	}
}

func TestFewerThanTwoSlotsAThread(t *testing.T) {
	for _, x := range []struct {
		slots, most int
	}{{2, 1}, {4, 2}, {8, 4}, {16, 4}} {
		for threads := 1; threads <= 4; threads++ {
			for _, c := range samples.FairConfigs() {
				c.Threads, c.Slots = threads, x.slots
				if threads <= x.most {
					tell(t, c, fairFault(c))
				} else {
					tell(t, c, wrongFault(c))
				}
			}
		}
	}
}

func TestTwoNumbersThatMayNotBe(t *testing.T) {
	for _, c := range []api.Config{{Replicas: 1, Logs: 1, Threads: 1, Slots: 2}, {Object: 2, Replicas: 2, Logs: 2, Threads: 4, Slots: 16}} {
		for _, x := range samples.WrongConfigs(c) {
			for _, y := range samples.WrongConfigs(c) {
				for _, both := range []api.Config{
					{Object: x.Object, Replicas: y.Replicas, Logs: x.Logs, Threads: y.Threads, Slots: x.Slots},
					{Object: x.Object, Replicas: x.Replicas, Logs: y.Logs, Threads: x.Threads, Slots: y.Slots},
					{Object: y.Object, Replicas: x.Replicas, Logs: x.Logs, Threads: y.Threads, Slots: y.Slots},
				} {
					if both != c {
						tell(t, both, wrongFault(both))
					}
				}
			}
		}
	}
}

func TestThreadsThatAreNone(t *testing.T) {
	for _, c := range samples.FairConfigs() {
		for _, thread := range append(samples.Far(), -4, -3, -1, c.Threads, c.Threads+1, c.Threads+2, 4, 5, 16, 255, 256, 257) {
			tell(t, c, replicaFault(c, thread, 0, api.ErrConfigForm))
		}
		tell(t, c, replicaFault(c, c.Threads-1, (c.Threads-1)%c.Replicas, api.OK))
	}
}

func TestEachReplicaHasAThreadIfThereAreEnough(t *testing.T) {
	for _, c := range samples.FairConfigs() {
		var at []int
		for thread := range c.Threads {
			replica, _ := Replica(c, thread)
			at = append(at, replica)
		}
		slices.Sort(at)
		if at = slices.Compact(at); len(at) != min(c.Replicas, c.Threads) || at[0] != 0 || at[len(at)-1] != len(at)-1 {
			t.Errorf("P13.1: %+v: threads are at %v", c, at)
		}
	}
}

func TestAnswersHangOnNothingElse(t *testing.T) {
	faults := samples.Together(func() string {
		for range 50 {
			for _, c := range samples.FairConfigs() {
				x := c
				x.Slots++
				for _, fault := range []string{fairFault(c), wrongFault(x), replicaFault(c, c.Threads, 0, api.ErrConfigForm)} {
					if fault != "" {
						return fault
					}
				}
			}
		}
		return ""
	})
	for _, fault := range faults {
		t.Errorf("R5: %s", fault)
	}
}
