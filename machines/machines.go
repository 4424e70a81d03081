// Package machines: what layers share, of a machine.
package machines

import (
	"chorus/api"
	"chorus/lists"
	"chorus/start"
	"chorus/states"
)

// HasThread: may m be, and is there such a thread?
func HasThread(m api.Machine, thread int) bool {
	return start.May(m) && lists.Has(m.Threads, thread)
}

// HasLog: may m be, and is there such a replica, and such a log?
func HasLog(m api.Machine, replica, log int) bool {
	return start.May(m) && lists.Has(m.Replicas, replica) && lists.Has(m.Rings, log)
}

// Copy: the same machine, each of its lists in memory of its own.
func Copy(m api.Machine) api.Machine {
	m.Rings = lists.CopyEach(m.Rings, copyRing)
	m.Replicas = lists.CopyEach(m.Replicas, copyReplica)
	m.Threads = lists.CopyEach(m.Threads, copyThread)
	m.History = lists.Copy(m.History)
	return m
}

// copyRing: the same log, in memory of its own.
func copyRing(r api.Ring) api.Ring {
	r.Slots = lists.Copy(r.Slots)
	return r
}

// copyReplica: the same replica, in memory of its own.
func copyReplica(r api.Replica) api.Replica {
	r.State = states.Copy(r.State)
	r.Cursors, r.Locks = lists.Copy(r.Cursors), lists.Copy(r.Locks)
	return r
}

// copyThread: the same thread, in memory of its own.
func copyThread(t api.Thread) api.Thread {
	t.Batch, t.Tails = lists.Copy(t.Batch), lists.Copy(t.Tails)
	return t
}
