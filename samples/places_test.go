package samples

import (
	"math"
	"slices"
	"testing"

	"chorus/api"
)

func TestBelowAndAround(t *testing.T) {
	for count, want := range [][]int{{}, {0}, {0, 1}, {0, 1, 2}, {0, 1, 2, 3}} {
		if got := Below(count); !slices.Equal(got, want) {
			t.Errorf("below %d: %v", count, got)
		}
		want = append(want, -1, count, math.MinInt, math.MaxInt)
		if got := Around(count); !slices.Equal(got, want) {
			t.Errorf("around %d: %v", count, got)
		}
	}
}

func TestPlacesAreWithinAndTheOthersOutside(t *testing.T) {
	for i, want := range [][]Place{{{0, 0}}, {{0, 0}, {1, 0}}, {{0, 0}, {0, 1}}, {{0, 0}, {0, 1}, {1, 0}, {1, 1}}} {
		c := api.Config{Replicas: 1 + i%2, Logs: 1 + i/2}
		if got := Places(c); !slices.Equal(got, want) {
			t.Errorf("%+v: %v", c, got)
		}
		none := NoPlaces(c)
		for _, p := range none {
			if slices.Contains(want, p) {
				t.Errorf("%+v: %v is within", c, p)
			}
		}
		for _, p := range []Place{{-1, 0}, {0, -1}, {c.Replicas, 0}, {0, c.Logs}, {-1, -1}, {c.Replicas, c.Logs}, {math.MinInt, 0}, {0, math.MaxInt}, {math.MaxInt, -1}, {256, 0}, {0, 1 << 32}} {
			if !slices.Contains(none, p) {
				t.Errorf("%+v: %v is not among them", c, p)
			}
		}
	}
}

func TestThreadsAtEachReplica(t *testing.T) {
	for _, x := range []struct {
		replicas, threads int
		want              [][]int
	}{
		{1, 1, [][]int{{0}}}, {1, 3, [][]int{{0, 1, 2}}}, {1, 4, [][]int{{0, 1, 2, 3}}},
		{2, 1, [][]int{{0}, {}}}, {2, 2, [][]int{{0}, {1}}}, {2, 3, [][]int{{0, 2}, {1}}}, {2, 4, [][]int{{0, 2}, {1, 3}}},
	} {
		c := api.Config{Replicas: x.replicas, Threads: x.threads}
		for replica, want := range x.want {
			if got := AtReplica(c, replica); !slices.Equal(got, want) {
				t.Errorf("%+v: at %d: %v", c, replica, got)
			}
			for _, thread := range want {
				if at := ReplicaOf(c, thread); at != replica {
					t.Errorf("%+v: thread %d is at %d", c, thread, at)
				}
			}
		}
	}
}

func TestWhoWaitsIsWrittenOut(t *testing.T) {
	m := FreshMachine(api.Config{Object: 1, Replicas: 2, Logs: 2, Threads: 4, Slots: 8})
	m.Threads = []api.Thread{
		{Op: api.Op{Code: 1}, Log: 1, Posted: true}, {Op: api.Op{Code: 2}, Log: 1, Posted: true},
		{Log: 1, Posted: true, Step: 10, Ready: true}, {Op: api.Op{Code: 1}, Posted: true},
	}
	for turn := range 2 {
		wants := [][]int{{}, {0, 2}, {3}, {}}
		if turn == 1 {
			m.Threads[0].Posted, m.Threads[3].Op.Code, m.Threads[1].Op.Code = false, 3, 0
			wants = [][]int{{}, {2}, {}, {1}}
		}
		for i, p := range Places(m.Config) {
			if got := WhoWaits(m, p); !slices.Equal(got, wants[i]) {
				t.Errorf("turn %d: at %+v: %v", turn, p, got)
			}
		}
	}
}

func TestBetweenIsFromTheOneBelowTheOther(t *testing.T) {
	for _, x := range []struct {
		head, tail int
		want       []int
	}{
		{0, 0, nil}, {0, 1, []int{0}}, {3, 6, []int{3, 4, 5}}, {6, 3, nil}, {1048574, 1048576, []int{1048574, 1048575}},
	} {
		if got := Between(x.head, x.tail); !slices.Equal(got, x.want) {
			t.Errorf("from %d below %d: %v", x.head, x.tail, got)
		}
	}
}

func TestLaidIsThatLogAndTheseCursors(t *testing.T) {
	for _, c := range FewConfigs() {
		m := BusyMachine(c, 6)
		for _, p := range Places(c) {
			old := CopiedMachine(m)
			got := Laid(m, p, 5, 6, 7, 5, 7)
			if !SameMachine(m, old) {
				t.Errorf("%+v: at %+v: what was given is changed", c, p)
			}
			want := MachineWith(m, func(x *api.Machine) {
				x.Rings[p.Log] = got.Rings[p.Log]
				for i := range x.Replicas {
					x.Replicas[i].Cursors[p.Log] = 7
				}
				x.Replicas[p.Replica].Cursors[p.Log] = 6
			})
			r := got.Rings[p.Log]
			if !SameMachine(got, want) || r.Head != 5 || r.Tail != 7 || r.Fence != 0 || len(r.Slots) != c.Slots {
				t.Errorf("%+v: at %+v: %+v", c, p, got)
			}
			for number := 5; number < 5+c.Slots; number++ {
				s := r.Slots[number%c.Slots]
				if live := s.Bit == 1-number/c.Slots%2; live != (number == 5 || number%c.Slots == 7%c.Slots) || s.Thread >= c.Threads {
					t.Errorf("%+v: at %+v: entry %d: %+v", c, p, number, s)
				}
			}
		}
	}
}
