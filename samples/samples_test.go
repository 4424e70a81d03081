package samples

import (
	"slices"
	"testing"

	"chorus/api"
)

// fair answers the state that it is given, in memory of its own.
func fair(s api.State, o api.Op) (api.State, int, api.Errno) {
	return apart(s), 0, api.OK
}

// faulty: calls that break R4, each in a way of its own.
func faulty() map[string]Apply {
	kept := []int{1}
	return map[string]Apply{
		"changes a row": func(s api.State, o api.Op) (api.State, int, api.Errno) {
			t := apart(s)
			s.Rows[3][0]++
			return t, 0, api.OK
		},
		"changes the spare room": func(s api.State, o api.Op) (api.State, int, api.Errno) {
			t := apart(s)
			_ = append(s.Rows[3], 5)
			return t, 0, api.OK
		},
		"answers a row": func(s api.State, o api.Op) (api.State, int, api.Errno) {
			t := apart(s)
			t.Rows[2] = s.Rows[2]
			return t, 0, api.OK
		},
		"answers an empty row": func(s api.State, o api.Op) (api.State, int, api.Errno) {
			t := apart(s)
			t.Rows[0] = s.Rows[0][:0]
			return t, 0, api.OK
		},
		"answers one list each time": func(s api.State, o api.Op) (api.State, int, api.Errno) {
			t := apart(s)
			t.Rows[1] = kept
			return t, 0, api.OK
		},
		"answers one list twice": func(s api.State, o api.Op) (api.State, int, api.Errno) {
			t := apart(s)
			t.Rows[2] = t.Rows[3]
			return t, 0, api.OK
		},
		"answers a row in another one's room": func(s api.State, o api.Op) (api.State, int, api.Errno) {
			t := apart(s)
			list := []int{7, 7}
			t.Rows[2], t.Rows[3] = list[1:], list[:1]
			return t, 0, api.OK
		},
	}
}

func TestSharingTellsFaults(t *testing.T) {
	s := api.State{Rows: [4][]int{nil, {1}, {7}, {7}}}
	if fault := Sharing(fair, s, api.Op{}); fault != "" {
		t.Errorf("a fair call: %s", fault)
	}
	for name, apply := range faulty() {
		if Sharing(apply, s, api.Op{}) == "" {
			t.Errorf("%s: no fault is told", name)
		}
	}
}

func TestRefusalTellsFaults(t *testing.T) {
	for i, apply := range []Apply{
		fair,
		func(s api.State, o api.Op) (api.State, int, api.Errno) { return api.State{}, 1, api.ErrNil },
		func(s api.State, o api.Op) (api.State, int, api.Errno) { return apart(s), 0, api.ErrNil },
		func(s api.State, o api.Op) (api.State, int, api.Errno) {
			s.Rows[1][0]++
			return api.State{}, 0, api.ErrNil
		},
	} {
		if Refusal(apply, api.State{Rows: [4][]int{1: {7}}}, api.Op{}, api.ErrNil) == "" {
			t.Errorf("call %d: no fault is told", i)
		}
	}
	refuse := func(s api.State, o api.Op) (api.State, int, api.Errno) { return api.State{}, 0, api.ErrNil }
	if fault := Refusal(refuse, api.State{Rows: [4][]int{1: {7}}}, api.Op{}, api.ErrNil); fault != "" {
		t.Errorf("a plain refusal: %s", fault)
	}
}

func TestTogetherTellsFaults(t *testing.T) {
	if faults := Together(func() string { return "" }); len(faults) != 0 {
		t.Errorf("%v", faults)
	}
	if faults := Together(func() string { return "a fault" }); len(faults) != 8 {
		t.Errorf("%v", faults)
	}
}

func TestStateIsTheseRows(t *testing.T) {
	if s := State(); !IsZero(s) {
		t.Errorf("%v", s)
	}
	if s := State([]int{9}, nil, []int{3, 4}); !Same(s, api.State{Rows: [4][]int{0: {9}, 2: {3, 4}}}) {
		t.Errorf("%v", s)
	}
}

func TestRowsAreEveryOne(t *testing.T) {
	if all := Rows(); len(all) != 1 || len(all[0]) != 0 {
		t.Errorf("%v", all)
	}
	all := Rows(7, 8, 9)
	if len(all) != 1+3+9+27+81 {
		t.Errorf("%d rows", len(all))
	}
	slices.SortFunc(all, slices.Compare)
	if different := slices.CompactFunc(all, slices.Equal); len(different) != 1+3+9+27+81 {
		t.Errorf("%d that are different", len(different))
	}
	for _, row := range all {
		if len(row) > 4 || slices.ContainsFunc(row, func(x int) bool { return x < 7 || x > 9 }) {
			t.Errorf("%v", row)
		}
	}
}
