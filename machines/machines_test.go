package machines

import (
	"testing"

	"chorus/api"
	"chorus/samples"
)

// copied: Copy, as a call under test.
var copied = samples.Always(func(m api.Machine) (api.Machine, api.Errno) { return Copy(m), api.OK })

func TestCopyIsTheSameMachine(t *testing.T) {
	for _, c := range samples.FairConfigs() {
		for _, m := range samples.FairMachines(c) {
			if fault := copied.Answer(m, m, true); fault != "" {
				t.Errorf("%s: of %+v", fault, m)
			}
		}
	}
}

func TestCopyIsInMemoryOfItsOwn(t *testing.T) {
	for _, c := range samples.FewConfigs() {
		for _, m := range samples.FairMachines(c) {
			if fault := copied.Sharing(m); fault != "" {
				t.Errorf("%s: of %+v", fault, m)
			}
		}
	}
}

func TestCopyOfNoMachine(t *testing.T) {
	if m := Copy(api.Machine{}); !samples.IsNoMachine(m) {
		t.Errorf("%+v", m)
	}
}
