package fold

import (
	"fmt"
	"slices"
	"testing"

	"chorus/api"
	"chorus/object"
	"chorus/samples"
)

// list is a row of numbers.
type list = []int

// ops are operations, one behind the other.
type ops = []api.Op

// first, second, look: operations of a row. scan: one of all rows.
func first(row, arg int) api.Op  { return api.Op{Code: api.CodeFirst, Row: row, Arg: arg} }
func second(row, arg int) api.Op { return api.Op{Code: api.CodeSecond, Row: row, Arg: arg} }
func look(row int) api.Op        { return api.Op{Code: api.CodeLook, Row: row} }
func scan() api.Op               { return api.Op{Code: api.CodeScan} }

// marker is what stands in the room behind the operations that a test hands in.
func marker() api.Op { return api.Op{Code: 77, Row: 77, Arg: 777} }

// roomy: the same operations, with room behind them; all of that room.
func roomy(os ops) (ops, ops) {
	room := append(slices.Clone(os), slices.Repeat(ops{marker()}, 9)...)
	return room[:len(os)], room
}

// byHand: what the operations make of the state, done one at a time; their answers.
func byHand(kind int, s api.State, os ops) (api.State, []int) {
	var answers []int
	for _, o := range os {
		t, answer, _ := object.Apply(kind, s, o)
		s, answers = t, append(answers, answer)
	}
	return s, answers
}

// foldFault: "", if Fold answers this, and leaves the operations as they were; else what it does.
func foldFault(kind int, s api.State, os ops, want api.State, answers []int) string {
	given, room := roomy(os)
	old := slices.Clone(room)
	got, told, e := Fold(kind, s, given)
	switch {
	case e != api.OK:
		return fmt.Sprintf("object %d, %v, %v: error %d", kind, s, os, e)
	case !samples.Same(got, want) || !slices.Equal(told, answers):
		return fmt.Sprintf("object %d, %v, %v: %v, %v; want %v, %v", kind, s, os, got, told, want, answers)
	case !slices.Equal(room, old):
		return fmt.Sprintf("object %d, %v, %v: the operations are changed, or their spare room", kind, s, os)
	}
	return ""
}

// refusalFault: "", if Fold answers its error alone; else what it does.
func refusalFault(kind int, s api.State, os ops) string {
	given, room := roomy(os)
	old := slices.Clone(room)
	got, told, e := Fold(kind, s, given)
	if !samples.IsZero(got) || len(told) != 0 || e != api.ErrFoldForm || !slices.Equal(room, old) {
		return fmt.Sprintf("object %d, %v, %v: %v, %v, %d", kind, s, os, got, told, e)
	}
	return ""
}

// tell reports a fault of P12.1, if there is one.
func tell(t *testing.T, fault string) {
	t.Helper()
	if fault != "" {
		t.Errorf("P12.1: %s", fault)
	}
}

// told is a fold written out, with what it must answer.
type told struct {
	before  api.State
	os      ops
	after   api.State
	answers []int
}

// ofStores: a value a row.
func ofStores() []told {
	return []told{
		{api.State{}, ops{first(0, 5), first(0, 6), first(0, 7)}, samples.State(list{7}), list{-1, 5, 6}},
		{api.State{}, ops{first(1, 5), look(1), second(1, 0), look(1), second(1, 0)}, api.State{}, list{-1, 5, 5, -1, -1}},
		{samples.State(list{9}), ops{second(0, 3), first(0, 0), second(0, 255), first(0, 255)}, samples.State(list{255}), list{9, -1, 0, -1}},
		{samples.State(list{1}, list{2}), ops{first(2, 3), scan(), first(3, 4), scan(), second(0, 0), scan()}, samples.State(nil, list{2}, list{3}, list{4}), list{-1, 6, -1, 10, 1, 9}},
		{samples.State(list{1}, list{2}), ops{first(1, 1), first(0, 2), look(0), look(1), first(1, 3)}, samples.State(list{2}, list{3}), list{2, 1, 2, 1, 1}},
		{samples.State(list{255}, list{255}, list{255}, list{255}), ops{scan(), first(3, 0), scan()}, samples.State(list{255}, list{255}, list{255}, list{0}), list{1020, 255, 765}},
	}
}

// ofFds: the least number that is free.
func ofFds() []told {
	return []told{
		{api.State{}, ops{first(0, 9), first(0, 9), first(0, 9), first(0, 9), first(0, 9)}, samples.State(list{0, 1, 2, 3}), list{0, 1, 2, 3, -1}},
		{samples.State(list{0, 1, 2, 3}), ops{second(0, 2), second(0, 0), first(0, 0), first(0, 0), first(0, 0)}, samples.State(list{0, 1, 2, 3}), list{1, 1, 0, 2, -1}},
		{api.State{}, ops{first(2, 0), second(2, 0), second(2, 0), look(2), first(2, 0), look(2)}, samples.State(nil, nil, list{0}), list{0, 1, 0, 0, 0, 1}},
		{samples.State(list{3}, list{0}), ops{first(1, 0), first(0, 0), scan(), second(0, 3), scan(), second(3, 1), first(3, 1), scan()}, samples.State(list{0}, list{0, 1}, nil, list{0}), list{1, 0, 4, 1, 3, 0, 0, 4}},
		{samples.State(list{3}, list{0}), ops{second(1, 255), second(1, 4), second(1, 3), look(1)}, samples.State(list{3}, list{0}), list{0, 0, 0, 1}},
	}
}

// ofQueues: first in, first out.
func ofQueues() []told {
	return []told{
		{api.State{}, ops{first(0, 5), first(0, 6), second(0, 0), first(0, 7), second(0, 0), second(0, 0), second(0, 0)}, api.State{}, list{1, 1, 5, 1, 6, 7, -1}},
		{samples.State(nil, list{4, 4, 4}), ops{first(1, 0), first(1, 1), second(1, 0), first(1, 2), look(1)}, samples.State(nil, list{4, 4, 0, 2}), list{1, 0, 4, 1, 4}},
		{samples.State(list{255, 0}), ops{first(3, 9), scan(), second(0, 0), scan(), look(0), second(3, 0), look(3), scan()}, samples.State(list{0}), list{1, 3, 255, 2, 1, 9, 0, 1}},
		{samples.State(list{1, 2, 3, 4}), ops{first(0, 5), second(0, 5), second(0, 5), first(0, 5), first(0, 6), first(0, 7)}, samples.State(list{3, 4, 5, 6}), list{0, 1, 2, 1, 1, 0}},
		{samples.State(list{1, 2}), ops{second(2, 0), second(0, 0), second(2, 0), second(0, 0), second(0, 0)}, api.State{}, list{-1, 1, -1, 2, -1}},
	}
}

func TestFoldsWrittenOut(t *testing.T) {
	for kind, all := range [][]told{ofStores(), ofFds(), ofQueues()} {
		for _, x := range all {
			tell(t, foldFault(kind, x.before, x.os, x.after, x.answers))
		}
	}
}

func TestTheSameOperationsOfEachObject(t *testing.T) {
	os := ops{first(0, 3), first(0, 3), look(0), second(0, 3), second(0, 1), look(0), scan()}
	for kind, x := range []struct {
		after   api.State
		answers []int
	}{
		{api.State{}, list{-1, 3, 3, 3, -1, -1, 0}},
		{samples.State(list{0}), list{0, 1, 2, 0, 1, 1, 1}},
		{api.State{}, list{1, 1, 2, 3, 3, 0, 0}},
	} {
		tell(t, foldFault(kind, api.State{}, os, x.after, x.answers))
	}
}

func TestNoOperations(t *testing.T) {
	for kind := range 3 {
		for _, s := range slices.Concat(samples.FairStates(kind), samples.FewStates(kind)) {
			for _, os := range []ops{nil, {}, ops{scan(), {Code: -1}}[:0]} {
				if got, answers, e := Fold(kind, s, os); !samples.Same(got, s) || len(answers) != 0 || e != api.OK {
					t.Errorf("P12.1: object %d, %v, %#v: %v, %v, %d", kind, s, os, got, answers, e)
				}
			}
		}
	}
}

// among: a call of o that is a fold of it, with operations ahead of it and behind it; its answer is o's.
func among(kind int, ahead, behind ops) samples.Layer {
	return samples.Layer{
		Apply: func(s api.State, o api.Op) (api.State, int, api.Errno) {
			os := slices.Concat(ahead, ops{o}, behind)
			got, answers, e := Fold(kind, s, os)
			switch {
			case len(answers) == len(os):
				return got, answers[len(ahead)], e
			case e == api.OK || len(answers) > 0:
				// Neither an operation nor a refusal answers this.
				return got, -9, e
			}
			return got, 0, e
		},
		Want: func(s api.State, o api.Op) (api.State, int) {
			got, answers := byHand(kind, s, slices.Concat(ahead, ops{o}, behind))
			return got, answers[len(ahead)]
		},
		Err: api.ErrFoldForm,
	}
}

func TestOneOperationAlone(t *testing.T) {
	for kind := range 3 {
		tell(t, among(kind, nil, nil).Calls(samples.FairStates(kind), samples.Ops(0, 1, 2, 3, 4, 254, 255)))
	}
	for arg := range 256 {
		for kind := range 3 {
			tell(t, among(kind, nil, nil).Calls(samples.FewStates(kind), samples.Ops(arg)))
		}
	}
}

func TestEachTwoOperations(t *testing.T) {
	all := samples.Ops(0, 2, 255)
	for kind := range 3 {
		for _, s := range samples.FairStates(kind) {
			for _, a := range all {
				for _, b := range all {
					want, answers := byHand(kind, s, ops{a, b})
					tell(t, foldFault(kind, s, ops{a, b}, want, answers))
				}
			}
		}
	}
}

func TestEachThreeOperations(t *testing.T) {
	all := samples.Ops(0, 3)
	for kind := range 3 {
		for _, s := range samples.FewStates(kind) {
			for _, a := range all {
				for _, b := range all {
					for _, c := range all {
						want, answers := byHand(kind, s, ops{a, b, c})
						tell(t, foldFault(kind, s, ops{a, b, c}, want, answers))
					}
				}
			}
		}
	}
}

// many: n operations, such that each one comes behind each other one.
func many(n int, args ...int) ops {
	all := samples.Ops(args...)
	var os ops
	for i := range n {
		os = append(os, all[(i*7+i/len(all))%len(all)])
	}
	return os
}

func TestManyOperations(t *testing.T) {
	for kind := range 3 {
		for _, s := range samples.FewStates(kind) {
			for _, n := range []int{3, 4, 5, 8, 15, 16, 17, 63, 64, 65, 255, 256, 257, 5000} {
				os := many(n, 0, 1, 3, 255)
				want, answers := byHand(kind, s, os)
				tell(t, foldFault(kind, s, os, want, answers))
			}
		}
	}
}

func TestOneOperationAgainAndAgain(t *testing.T) {
	for kind := range 3 {
		for _, s := range samples.FewStates(kind) {
			for _, o := range samples.Ops(0, 1, 3, 255) {
				os := slices.Repeat(ops{o}, 9)
				want, answers := byHand(kind, s, os)
				tell(t, foldFault(kind, s, os, want, answers))
			}
		}
	}
}

func TestInTwoPartsAndAtOnce(t *testing.T) {
	os := many(60, 0, 3)
	for kind := range 3 {
		for _, s := range samples.FewStates(kind) {
			want, answers, e := Fold(kind, s, os)
			if len(answers) != len(os) || e != api.OK {
				t.Fatalf("P12.1: object %d, %v: %v, %d", kind, s, answers, e)
			}
			for cut := range len(os) + 1 {
				between, left, e := Fold(kind, s, os[:cut])
				behind, right, f := Fold(kind, between, os[cut:])
				if !samples.Same(behind, want) || !slices.Equal(slices.Concat(left, right), answers) || e != api.OK || f != api.OK {
					t.Errorf("P12.1: object %d, %v, cut at %d: %v, %v, %v; want %v, %v", kind, s, cut, behind, left, right, want, answers)
				}
			}
		}
	}
}

func TestNumbersThatAreNoObject(t *testing.T) {
	all := []api.State{{}, samples.State(list{0}, list{1}, list{2}, list{3}), samples.State(list{9}), samples.State(list{3, 0}), samples.State(list{-1})}
	for _, kind := range samples.NoObjects() {
		for _, s := range all {
			for _, os := range []ops{nil, {}, {scan()}, {first(0, 0)}, {look(3), second(1, 2)}, {{Code: -1}}, many(20, 0, 3)} {
				tell(t, refusalFault(kind, s, os))
			}
		}
	}
}

// someAround: operations to stand ahead of others and behind them.
func someAround() []ops {
	return []ops{nil, {scan()}, {first(1, 3), look(1)}, many(12, 0, 3)}
}

func TestStatesThatMayNotBe(t *testing.T) {
	for kind := range 3 {
		for _, around := range someAround() {
			tell(t, among(kind, around, nil).WrongStates(samples.FewStates(kind), samples.WrongRows(kind)))
		}
	}
}

func TestStatesThatMayNotBeOfNoOperations(t *testing.T) {
	for kind := range 3 {
		for _, row := range samples.WrongRows(kind) {
			for at := range api.Rows {
				for _, s := range samples.FewStates(kind) {
					s.Rows[at] = row
					tell(t, refusalFault(kind, s, nil))
					tell(t, refusalFault(kind, s, ops{}))
				}
			}
		}
	}
}

func TestOneObjectsStateIsNotAnothers(t *testing.T) {
	for _, x := range []struct {
		s    api.State
		want [3]bool
	}{
		{api.State{}, [3]bool{true, true, true}},
		{samples.State(list{0}, list{1}, list{2}, list{3}), [3]bool{true, true, true}},
		{samples.State(nil, nil, list{4}), [3]bool{true, false, true}},
		{samples.State(nil, list{0, 1}), [3]bool{false, true, true}},
		{samples.State(list{1, 0}), [3]bool{false, false, true}},
		{samples.State(nil, nil, nil, list{256}), [3]bool{false, false, false}},
	} {
		// The last ones turn the row into one that may be, too late.
		for _, os := range []ops{nil, {scan()}, {look(0)}, {first(0, 0), second(2, 4), second(1, 0)}} {
			for kind, may := range x.want {
				if may {
					want, answers := byHand(kind, x.s, os)
					tell(t, foldFault(kind, x.s, os, want, answers))
				} else {
					tell(t, refusalFault(kind, x.s, os))
				}
			}
		}
	}
}

func TestOperationsThatMayNotBe(t *testing.T) {
	for kind := range 3 {
		for _, ahead := range someAround() {
			for _, behind := range someAround() {
				tell(t, among(kind, ahead, behind).WrongOps(samples.FewStates(kind)))
			}
		}
	}
}

func TestOneOperationThatMayNotBeAtEachPlace(t *testing.T) {
	for kind := range 3 {
		for _, n := range []int{1, 2, 3, 4, 17, 300} {
			for at := range n {
				os := many(n, 0, 3)
				os[at] = samples.WrongOps()[(at+n)%len(samples.WrongOps())]
				tell(t, refusalFault(kind, samples.FewStates(kind)[3], os))
			}
		}
		for _, a := range samples.WrongOps() {
			for _, b := range samples.WrongOps() {
				tell(t, refusalFault(kind, api.State{}, ops{a, first(0, 1), b}))
			}
		}
	}
}

// behind: a fold of o behind these operations as a call; of its rows, the one at this place is the answers' list instead.
func behind(kind int, ahead ops, at int) samples.Apply {
	return func(s api.State, o api.Op) (api.State, int, api.Errno) {
		got, answers, e := Fold(kind, s, append(slices.Clone(ahead), o))
		got.Rows[at] = answers
		return got, 0, e
	}
}

func TestNothingIsChangedKeptOrShared(t *testing.T) {
	for kind := range 3 {
		for _, ahead := range someAround() {
			if fault := among(kind, ahead, nil).Sharing(samples.FewStates(kind), samples.Ops(0, 3)); fault != "" {
				t.Errorf("R4: object %d, behind %v: %s", kind, ahead, fault)
			}
		}
	}
}

func TestAnswersShareNothing(t *testing.T) {
	for kind := range 3 {
		for _, ahead := range someAround() {
			for at := range api.Rows {
				l := samples.Layer{Apply: behind(kind, ahead, at)}
				if fault := l.Sharing(samples.FewStates(kind), samples.Ops(0, 3)); fault != "" {
					t.Errorf("R4: object %d, behind %v, the answers at row %d: %s", kind, ahead, at, fault)
				}
			}
		}
	}
}

func TestNoOperationsShareNothing(t *testing.T) {
	for kind := -1; kind <= 3; kind++ {
		for _, os := range []ops{nil, {}, {scan(), look(2)}} {
			call := func(s api.State, o api.Op) (api.State, int, api.Errno) {
				got, _, e := Fold(kind, s, os)
				return got, 0, e
			}
			for _, s := range append(samples.FewStates(min(max(kind, 0), 2)), samples.State(list{-1}, list{1}, list{1})) {
				if fault := samples.Sharing(call, s, api.Op{}); fault != "" {
					t.Errorf("R4: object %d, %v, %v: %s", kind, s, os, fault)
				}
			}
		}
	}
}

func TestAnswersHangOnNothingElse(t *testing.T) {
	for kind := range 3 {
		for _, s := range samples.FewStates(kind) {
			if fault := among(kind, many(5, 0, 3), many(3, 1)).Together(s, samples.Ops(0, 3)); fault != "" {
				t.Errorf("R5: object %d: %s", kind, fault)
			}
		}
	}
}

func TestObjectsAreFoldedInAnyOrder(t *testing.T) {
	// The three in turn, in several goroutines at one time: what one was folded is not to be seen in the next.
	faults := samples.Together(func() string {
		for range 100 {
			for kind, all := range [][]told{ofStores(), ofFds(), ofQueues()} {
				for _, x := range all {
					if fault := foldFault(kind, x.before, x.os, x.after, x.answers); fault != "" {
						return fault
					}
					if fault := refusalFault(kind, x.before, append(slices.Clone(x.os), api.Op{Code: 4})); fault != "" {
						return fault
					}
				}
			}
		}
		return ""
	})
	for _, fault := range faults {
		t.Errorf("R5: %s", fault)
	}
}
