package samples

import (
	"slices"
	"testing"

	"chorus/api"
)

// mayRow: may it be a row of this object, by the document's words?
func mayRow(object int, row []int) bool {
	if len(row) > 4 || slices.ContainsFunc(row, func(x int) bool { return x < 0 || x > 255 }) {
		return false
	}
	switch object {
	case 0:
		return len(row) < 2
	case 1:
		for i, x := range row {
			if x > 3 || i > 0 && row[i-1] >= x {
				return false
			}
		}
	}
	return true
}

func TestNoObjectsAreNone(t *testing.T) {
	for _, object := range NoObjects() {
		if object >= 0 && object <= 2 {
			t.Errorf("%d", object)
		}
	}
	if !slices.Contains(NoObjects(), -1) || !slices.Contains(NoObjects(), 3) {
		t.Errorf("the edges are not there: %v", NoObjects())
	}
}

func TestFairStatesMayBe(t *testing.T) {
	for object, least := range []int{2 + 2*6, 2 + 2*16, 2 + 2*121} {
		if n := len(FairStates(object)); n != least {
			t.Errorf("object %d: %d states", object, n)
		}
		for _, s := range slices.Concat(FairStates(object), FewStates(object)) {
			for _, row := range s.Rows {
				if !mayRow(object, row) {
					t.Errorf("object %d: %v", object, s)
				}
			}
		}
	}
}

func TestFewStatesAreAtTheEdges(t *testing.T) {
	for object, most := range []int{1, 4, 4} {
		lengths := make([]int, 5)
		for _, s := range FewStates(object) {
			for _, row := range s.Rows {
				lengths[len(row)]++
			}
		}
		if lengths[0] == 0 || lengths[1] == 0 || lengths[most] == 0 {
			t.Errorf("object %d: %v", object, lengths)
		}
	}
}

func TestWrongRowsMayNotBe(t *testing.T) {
	for object, count := range []int{14, 16, 11} {
		if n := len(WrongRows(object)); n != count {
			t.Errorf("object %d: %d rows", object, n)
		}
		for _, row := range WrongRows(object) {
			if mayRow(object, row) {
				t.Errorf("object %d: %v", object, row)
			}
		}
	}
}

func TestStatesAreNewEachTime(t *testing.T) {
	for object := range 3 {
		for _, s := range slices.Concat(FairStates(object), FewStates(object), []api.State{State(WrongRows(object)...)}) {
			scribble(s)
		}
		if s := FewStates(object)[1]; !Same(s, State([]int{0}, nil, []int{1}, []int{3})) {
			t.Errorf("object %d: %v", object, s)
		}
	}
}
