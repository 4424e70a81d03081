package machines

import (
	"testing"

	"chorus/api"
	"chorus/samples"
)

// copied: Copy, as a call under test.
var copied = samples.Always(func(m api.Machine) (api.Machine, api.Errno) { return Copy(m), api.OK })

func TestCopyIsTheSameMachine(t *testing.T) {
	for _, c := range samples.FairConfigs() {
		for _, m := range samples.FairMachines(c) {
			if fault := copied.Answer(m, m, true); fault != "" {
				t.Errorf("%s: of %+v", fault, m)
			}
		}
	}
}

func TestCopyIsInMemoryOfItsOwn(t *testing.T) {
	for _, c := range samples.FewConfigs() {
		for _, m := range samples.FairMachines(c) {
			if fault := copied.Sharing(m); fault != "" {
				t.Errorf("%s: of %+v", fault, m)
			}
		}
	}
}

func TestCopyOfNoMachine(t *testing.T) {
	if m := Copy(api.Machine{}); !samples.IsNoMachine(m) {
		t.Errorf("%+v", m)
	}
}

func TestThreadsAndLogsThatThereAre(t *testing.T) {
	for _, c := range samples.FewConfigs() {
		for _, m := range []api.Machine{samples.FreshMachine(c), samples.BusyMachine(c, 6)} {
			wrong := samples.MachineWith(m, func(m *api.Machine) { m.Threads[0].Log = c.Logs })
			for _, thread := range samples.Around(c.Threads) {
				if is := HasThread(m, thread); is != (thread >= 0 && thread < c.Threads) || HasThread(wrong, thread) {
					t.Errorf("thread %d of %+v: %t", thread, c, is)
				}
			}
			for _, p := range samples.Places(c) {
				if !HasLog(m, p.Replica, p.Log) || HasLog(wrong, p.Replica, p.Log) {
					t.Errorf("%+v of %+v", p, c)
				}
			}
			for _, p := range samples.NoPlaces(c) {
				if HasLog(m, p.Replica, p.Log) {
					t.Errorf("%+v of %+v", p, c)
				}
			}
		}
	}
}
