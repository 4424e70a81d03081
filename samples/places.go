package samples

import (
	"math"
	"slices"

	"chorus/api"
)

// Place: a replica and a log of it, as a call is told of them.
type Place struct {
	Replica, Log int
}

// Places: every replica and log that a machine of c has.
func Places(c api.Config) []Place {
	return crossed(Below(c.Replicas), Below(c.Logs))
}

// NoPlaces: places that no machine of c has: the replica is outside, or the log, or both are.
func NoPlaces(c api.Config) []Place {
	all := slices.Concat(
		crossed(Around(c.Replicas), Around(c.Logs)),
		crossed(Outside(0, c.Replicas-1), Below(c.Logs)),
		crossed(Below(c.Replicas), Outside(0, c.Logs-1)),
	)
	fair := Places(c)
	return slices.DeleteFunc(all, func(p Place) bool { return slices.Contains(fair, p) })
}

// crossed: each of these replicas with each of these logs.
func crossed(replicas, logs []int) []Place {
	var all []Place
	for _, replica := range replicas {
		for _, log := range logs {
			all = append(all, Place{Replica: replica, Log: log})
		}
	}
	return all
}

// Below: the numbers from 0 below count, that is 4 at most.
func Below(count int) []int {
	return []int{0, 1, 2, 3}[:count]
}

// Around: the numbers from 0 below count, those next to them, the least and the greatest int.
func Around(count int) []int {
	return slices.Concat(Below(count), []int{-1, count, math.MinInt, math.MaxInt})
}

// ReplicaOf: which replica that thread of c is at.
func ReplicaOf(c api.Config, thread int) int {
	if c.Replicas == 2 {
		return []int{0, 1, 0, 1}[thread]
	}
	return 0
}

// AtReplica: the threads of c that are at that replica.
func AtReplica(c api.Config, replica int) []int {
	return slices.DeleteFunc(Below(c.Threads), func(thread int) bool { return ReplicaOf(c, thread) != replica })
}

// WhoWaits: the threads that wait at that place of m.
func WhoWaits(m api.Machine, p Place) []int {
	return slices.DeleteFunc(AtReplica(m.Config, p.Replica), func(thread int) bool {
		t := m.Threads[thread]
		return !t.Posted || t.Log != p.Log || t.Op.Code == 2 || t.Op.Code == 3
	})
}

// Laid: m, in which that place's log has the entries from head on below tail, and its replica comes to entry at, all others to the tail; the slots of these numbers are alive, those behind the tail too, and no other ones.
func Laid(m api.Machine, p Place, head, at, tail int, alive ...int) api.Machine {
	c := m.Config
	return MachineWith(m, func(m *api.Machine) {
		r := Ring(c.Slots, head, tail)
		for number := head; number < head+c.Slots; number++ {
			s := &r.Slots[number%c.Slots]
			s.Thread %= c.Threads
			s.Bit = number / c.Slots % 2
			if slices.Contains(alive, number) {
				s.Bit = 1 - s.Bit
			}
		}
		m.Rings[p.Log] = r
		for i := range m.Replicas {
			m.Replicas[i].Cursors[p.Log] = tail
		}
		m.Replicas[p.Replica].Cursors[p.Log] = at
	})
}

// Between: the numbers from head on below tail.
func Between(head, tail int) []int {
	var all []int
	for number := head; number < tail; number++ {
		all = append(all, number)
	}
	return all
}
