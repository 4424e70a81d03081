// Package steps: what the layers share in which a thread goes on, one step at a time.
package steps

import (
	"chorus/api"
	"chorus/config"
	"chorus/machines"
	"chorus/replay"
)

// Goer is a thread at its step, in a machine that is in memory of its own.
type Goer struct {
	*api.Thread
	Machine api.Machine
	Number  int
	Replica int
}

// Of: that thread of m; is there one, in a machine that may be?
func Of(m api.Machine, thread int) (Goer, bool) {
	if !machines.HasThread(m, thread) {
		return Goer{}, false
	}
	// Such a thread of such a machine is at a replica.
	replica, _ := config.Replica(m.Config, thread)
	g := Goer{Number: thread, Replica: replica}
	g.enter(machines.Copy(m))
	return g, true
}

// Ring: its log.
func (g *Goer) Ring() *api.Ring {
	return &g.Machine.Rings[g.Log]
}

// Replay: that replica does the next entry of its log, if there is one; false if that is refused.
func (g *Goer) Replay(replica int) bool {
	m, _, e := replay.One(g.Machine, replica, g.Log)
	return g.take(m, e)
}

// take: its machine is the one that a layer answers; false if that one refuses.
func (g *Goer) take(m api.Machine, e api.Errno) bool {
	if e != api.OK {
		return false
	}
	g.enter(m)
	return true
}

// enter: it is that thread of m from now on.
func (g *Goer) enter(m api.Machine) {
	g.Machine, g.Thread = m, &m.Threads[g.Number]
}
