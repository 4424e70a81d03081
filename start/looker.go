package start

import (
	"chorus/api"
	"chorus/lists"
	"chorus/object"
	"chorus/oper"
	"chorus/ring"
)

// looker: who looks whether a machine's parts may be: it has what there is, and the logs that cursors are of.
type looker struct {
	api.Config
	rings []api.Ring
}

// mayRing: may it be one of the logs?
func (l looker) mayRing(r api.Ring) bool {
	return ring.May(r) && len(r.Slots) == l.Slots && l.mayHolder(r.Fence) && lists.All(r.Slots, l.maySlot)
}

// maySlot: may it be a log's?
func (l looker) maySlot(s api.Slot) bool {
	return l.isThread(s.Thread)
}

// mayReplica: may it be one of the replicas, of rings that may be?
func (l looker) mayReplica(r api.Replica) bool {
	return object.May(l.Object, r.State) &&
		len(r.Cursors) == l.Logs && l.mayCursors(r.Cursors) &&
		exactly(r.Locks, l.Logs, l.mayHolder)
}

// mayCursors: is each of them, as many as there are logs, in its own log?
func (l looker) mayCursors(cursors []int) bool {
	for log, at := range cursors {
		if r := l.rings[log]; !within(at, r.Head, r.Tail) {
			return false
		}
	}
	return true
}

// mayThread: may it be one of the threads?
func (l looker) mayThread(t api.Thread) bool {
	return within(t.Step, api.StepIdle, api.StepOpen) &&
		oper.May(t.Op) &&
		within(t.Log, 0, l.Logs-1) &&
		mayPlace(t.Seen) &&
		atMost(t.Batch, l.Threads, l.isThread) &&
		within(t.At, 0, len(t.Batch)) &&
		atMost(t.Tails, l.Logs, mayPlace)
}

// mayEvent: may it be one of the history?
func (l looker) mayEvent(e api.Event) bool {
	return l.isThread(e.Thread) && oper.May(e.Op)
}

// isThread: is there such a thread?
func (l looker) isThread(thread int) bool {
	return within(thread, 0, l.Threads-1)
}

// mayHolder: may it tell who holds a fence or a lock, nobody or a thread and 1?
func (l looker) mayHolder(holder int) bool {
	return within(holder, 0, l.Threads)
}

// mayPlace: may it be a place in a log?
func mayPlace(at int) bool {
	return within(at, 0, api.MaxCell)
}

// within: is it from least to most?
func within(x, least, most int) bool {
	return x >= least && x <= most
}

// exactly: are there so many, and is it so of all of them?
func exactly[T any](xs []T, count int, is func(x T) bool) bool {
	return len(xs) == count && lists.All(xs, is)
}

// atMost: are there no more than so many, and is it so of all of them?
func atMost[T any](xs []T, most int, is func(x T) bool) bool {
	return len(xs) <= most && lists.All(xs, is)
}
