package samples

import (
	"math"
	"slices"

	"chorus/api"
)

// FreshMachine: a machine of c in which nothing was called, each number the least one.
func FreshMachine(c api.Config) api.Machine {
	m := api.Machine{Config: c, Threads: make([]api.Thread, c.Threads)}
	for range c.Logs {
		m.Rings = append(m.Rings, api.Ring{Slots: make([]api.Slot, c.Slots)})
	}
	for range c.Replicas {
		m.Replicas = append(m.Replicas, api.Replica{Cursors: make([]int, c.Logs), Locks: make([]int, c.Logs)})
	}
	return m
}

// FullMachine: a machine of c in which each number is the greatest one, each list the longest.
func FullMachine(c api.Config) api.Machine {
	o := api.Op{Code: 1, Row: 3, Arg: 255}
	slot := api.Slot{Op: o, Thread: c.Threads - 1, Bit: 1}
	m := api.Machine{Config: c}
	for range c.Logs {
		m.Rings = append(m.Rings, api.Ring{Head: 1048576 - c.Slots, Tail: 1048576, Fence: c.Threads, Slots: slices.Repeat([]api.Slot{slot}, c.Slots)})
	}
	for range c.Replicas {
		m.Replicas = append(m.Replicas, api.Replica{
			State:   apart(FewStates(c.Object)[2]),
			Cursors: slices.Repeat([]int{1048576}, c.Logs),
			Locks:   slices.Repeat([]int{c.Threads}, c.Logs),
		})
	}
	for range c.Threads {
		m.Threads = append(m.Threads, api.Thread{
			Step: 19, Op: o, Log: c.Logs - 1, Seen: 1048576, Batch: slices.Repeat([]int{c.Threads - 1}, c.Threads), At: c.Threads,
			Posted: true, Ready: true, Answer: math.MaxInt, Tails: slices.Repeat([]int{1048576}, c.Logs),
		})
	}
	m.History = slices.Repeat([]api.Event{{Thread: c.Threads - 1, Call: true, Op: o, Answer: math.MaxInt}}, 64)
	return m
}

// BusyMachine: a machine of c in the midst of things, another one each turn.
func BusyMachine(c api.Config, turn int) api.Machine {
	m := api.Machine{Config: c}
	for i := range c.Logs {
		m.Rings = append(m.Rings, busyRing(c, turn+3*i))
	}
	for i := range c.Replicas {
		m.Replicas = append(m.Replicas, busyReplica(c, m.Rings, turn+i))
	}
	for i := range c.Threads {
		m.Threads = append(m.Threads, busyThread(c, turn+7*i))
	}
	for i := range turn % 9 {
		m.History = append(m.History, api.Event{Thread: (turn + i) % c.Threads, Call: i%2 == 0, Op: busyOp(turn + i), Answer: turn - 5*i})
	}
	return m
}

// busyRing: a ring that has some entries, or none, or is full.
func busyRing(c api.Config, turn int) api.Ring {
	head := turn * 5
	r := Ring(c.Slots, head, head+turn%(c.Slots+1))
	for i := range r.Slots {
		r.Slots[i].Thread %= c.Threads
	}
	r.Fence = turn % (c.Threads + 1)
	return r
}

// busyReplica: a replica that is somewhere in each of these rings.
func busyReplica(c api.Config, rings []api.Ring, turn int) api.Replica {
	some := FewStates(c.Object)
	r := api.Replica{State: apart(some[turn%len(some)])}
	for i, log := range rings {
		r.Cursors = append(r.Cursors, log.Head+(turn+i)%(log.Tail-log.Head+1))
		r.Locks = append(r.Locks, (turn+2*i)%(c.Threads+1))
	}
	return r
}

// busyThread: a thread at one of the steps.
func busyThread(c api.Config, turn int) api.Thread {
	t := api.Thread{Step: turn % 20, Op: busyOp(turn), Log: turn % c.Logs, Seen: 9 * turn, Posted: turn%2 == 0, Ready: turn%3 == 0, Answer: 4 - turn}
	for i := range turn % (c.Threads + 1) {
		t.Batch = append(t.Batch, (turn+i)%c.Threads)
	}
	for i := range turn % (c.Logs + 1) {
		t.Tails = append(t.Tails, turn*(i+1))
	}
	t.At = turn / 2 % (len(t.Batch) + 1)
	return t
}

// busyOp: one of the operations that may be.
func busyOp(turn int) api.Op {
	all := Ops(0, 7, 255)
	return all[turn*5%len(all)]
}

// FairMachines: machines of c that may be, those at the edges among them.
func FairMachines(c api.Config) []api.Machine {
	return []api.Machine{
		FreshMachine(c), emptied(FreshMachine(c)), FullMachine(c),
		BusyMachine(c, 1), BusyMachine(c, 2), BusyMachine(c, 4), emptied(BusyMachine(c, 11)), BusyMachine(c, 16),
	}
}

// emptied: the same machine; lists that are nil are empty ones.
func emptied(m api.Machine) api.Machine {
	empty := func(lists ...*[]int) {
		for _, list := range lists {
			if *list == nil {
				*list = []int{}
			}
		}
	}
	return MachineWith(m, func(m *api.Machine) {
		for i := range m.Replicas {
			rows := &m.Replicas[i].State.Rows
			empty(&rows[0], &rows[1], &rows[2], &rows[3])
		}
		for i := range m.Threads {
			empty(&m.Threads[i].Batch, &m.Threads[i].Tails)
		}
		if m.History == nil {
			m.History = []api.Event{}
		}
	})
}

// AllAs: m, with each of its threads as this one.
func AllAs(m api.Machine, x api.Thread) api.Machine {
	return MachineWith(m, func(m *api.Machine) {
		for i := range m.Threads {
			m.Threads[i] = apartThread(x)
		}
	})
}

// apartThread: the same thread, in memory of its own.
func apartThread(x api.Thread) api.Thread {
	x.Batch, x.Tails = slices.Clone(x.Batch), slices.Clone(x.Tails)
	return x
}

// EachAs: m with each thread as one of these, all of them crossed.
func EachAs(m api.Machine, all []api.Thread) []api.Machine {
	some := []api.Machine{m}
	for i := range m.Threads {
		var more []api.Machine
		for _, one := range some {
			for _, x := range all {
				more = append(more, MachineWith(one, func(m *api.Machine) { m.Threads[i] = apartThread(x) }))
			}
		}
		some = more
	}
	return some
}

// AllAtStep: m, with each of its threads at that step.
func AllAtStep(m api.Machine, step int) api.Machine {
	return MachineWith(m, func(m *api.Machine) {
		for i := range m.Threads {
			m.Threads[i].Step = step
		}
	})
}
