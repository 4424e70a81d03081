package samples

import (
	"strings"
	"testing"

	"chorus/api"
)

// numbers is an object whose first operation puts its argument last, and whose others turn nothing; each answers how many the row has.
func numbers(s api.State, o api.Op) (api.State, int) {
	t := apart(s)
	answer := len(t.Rows[o.Row])
	if o.Code == 0 && answer < 4 {
		t.Rows[o.Row] = append(t.Rows[o.Row], o.Arg)
	}
	return t, answer
}

// mayNumbers: may they be, and this operation?
func mayNumbers(s api.State, o api.Op) bool {
	for _, row := range s.Rows {
		for _, x := range row {
			if x < 0 {
				return false
			}
		}
	}
	for _, wrong := range WrongOps() {
		if o == wrong {
			return false
		}
	}
	return o.Code >= 0
}

// plain: the object's call, as it should be.
func plain(s api.State, o api.Op) (api.State, int, api.Errno) {
	if !mayNumbers(s, o) {
		return api.State{}, 0, api.ErrNil
	}
	t, answer := numbers(s, o)
	return t, answer, api.OK
}

// looks: what a layer's methods tell of a call, by their names.
func looks(apply Apply) map[string]string {
	l := Layer{Apply: apply, Want: numbers, Err: api.ErrNil}
	some := []api.State{{}, {Rows: [4][]int{{1}, {1, 2}, nil, {3}}}}
	return map[string]string{
		"Call":        l.Call(some[1], api.Op{Code: 0, Row: 1, Arg: 3}),
		"Calls":       l.Calls(some, Ops(0, 3)),
		"Refusal":     l.Refusal(some[1], api.Op{Code: 4}),
		"WrongStates": l.WrongStates(some, [][]int{{-1}, {1, -1}}),
		"WrongOps":    l.WrongOps(some),
		"Sharing":     l.Sharing(some, Ops(3)),
		"Behind":      l.Behind(Ops(0, 3), 200),
		"Together":    l.Together(some[1], Ops(3)),
	}
}

func TestNoFaultOfAPlainLayer(t *testing.T) {
	for name, fault := range looks(plain) {
		if fault != "" {
			t.Errorf("%s: %s", name, fault)
		}
	}
}

// broken is a call that is not as it should be, and the methods that must tell so.
type broken struct {
	name  string
	apply Apply
	tell  []string
}

// brokenAnswers: calls that answer what they should not.
func brokenAnswers() []broken {
	calls := []string{"Call", "Calls", "Behind", "Together"}
	refusals := []string{"Refusal", "WrongStates", "WrongOps", "Together"}
	return []broken{
		{"another number", func(s api.State, o api.Op) (api.State, int, api.Errno) {
			t, answer, e := plain(s, o)
			if e == api.OK {
				answer++
			}
			return t, answer, e
		}, calls},
		{"another state", func(s api.State, o api.Op) (api.State, int, api.Errno) {
			t, answer, e := plain(s, o)
			if e == api.OK {
				t.Rows[o.Row] = append(t.Rows[o.Row], 0)
			}
			return t, answer, e
		}, calls},
		{"an error where nothing is wrong", func(s api.State, o api.Op) (api.State, int, api.Errno) {
			return api.State{}, 0, api.ErrNil
		}, calls},
		{"another error", func(s api.State, o api.Op) (api.State, int, api.Errno) {
			t, answer, e := plain(s, o)
			if e != api.OK {
				e = api.ErrOperForm
			}
			return t, answer, e
		}, refusals},
		{"a number beside the error", func(s api.State, o api.Op) (api.State, int, api.Errno) {
			t, answer, e := plain(s, o)
			if e != api.OK {
				answer = -1
			}
			return t, answer, e
		}, refusals},
	}
}

// brokenCalls: calls that ask too little, or meddle with what they are given.
func brokenCalls() []broken {
	return []broken{
		{"only the operation is looked at", func(s api.State, o api.Op) (api.State, int, api.Errno) {
			if !mayNumbers(api.State{}, o) {
				return api.State{}, 0, api.ErrNil
			}
			t, answer := numbers(s, o)
			return t, answer, api.OK
		}, []string{"WrongStates"}},
		{"only the row of the operation is looked at", func(s api.State, o api.Op) (api.State, int, api.Errno) {
			if mayNumbers(api.State{}, o) && mayNumbers(api.State{Rows: [4][]int{s.Rows[o.Row]}}, o) {
				t, answer := numbers(s, o)
				return t, answer, api.OK
			}
			return api.State{}, 0, api.ErrNil
		}, []string{"WrongStates"}},
		{"a row that was given is answered", func(s api.State, o api.Op) (api.State, int, api.Errno) {
			t, answer, e := plain(s, o)
			if e == api.OK && len(t.Rows[3]) == len(s.Rows[3]) {
				t.Rows[3] = s.Rows[3]
			}
			return t, answer, e
		}, []string{"Sharing"}},
		{"the state that was given is changed", func(s api.State, o api.Op) (api.State, int, api.Errno) {
			t, answer, e := plain(s, o)
			if e == api.OK && len(s.Rows[1]) > 1 {
				s.Rows[1][1] += 7
			}
			return t, answer, e
		}, []string{"Call"}},
	}
}

func TestFaultsOfBrokenLayersAreTold(t *testing.T) {
	for _, b := range brokenAnswers() {
		got := looks(b.apply)
		for _, name := range b.tell {
			if got[name] == "" {
				t.Errorf("%s: %s tells no fault", b.name, name)
			}
		}
	}
}

func TestFaultsOfBrokenCallsAreTold(t *testing.T) {
	for _, b := range brokenCalls() {
		l := Layer{Apply: b.apply, Want: numbers, Err: api.ErrNil}
		s := api.State{Rows: [4][]int{{1}, {1, 2}, nil, {3}}}
		got := map[string]string{
			"Call":        l.Call(s, api.Op{Code: 2, Row: 1}),
			"WrongStates": l.WrongStates([]api.State{{}, s}, [][]int{{-1}}),
			"Sharing":     l.Sharing([]api.State{{}, {Rows: [4][]int{nil, nil, nil, {3}}}}, Ops(3)),
		}
		for _, name := range b.tell {
			if got[name] == "" {
				t.Errorf("%s: %s tells no fault", b.name, name)
			}
		}
	}
}

func TestAFaultTellsTheCall(t *testing.T) {
	l := Layer{Apply: plain, Want: func(s api.State, o api.Op) (api.State, int) { return s, 7 }, Err: api.ErrNil}
	s := api.State{Rows: [4][]int{{1, 2}, nil, make([]int, 20), {3}}}
	fault := l.Call(s, api.Op{Code: 2, Row: 3})
	if want := "[1 2][][0 0 0 0 0 0 0 0 ..][3], [2 3 0]: "; !strings.HasPrefix(fault, want) {
		t.Errorf("%q, want %q in front", fault, want)
	}
}
