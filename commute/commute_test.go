package commute

import (
	"slices"
	"testing"

	"chorus/api"
	"chorus/object"
	"chorus/samples"
)

// list is a row of numbers.
type list = []int

// both: Both's answer as if it were a call's, so that what is looked at of calls is looked at of it.
func both(kind int, s api.State, a, b api.Op) (api.State, int, api.Errno) {
	is, e := Both(kind, s, a, b)
	if is {
		return api.State{}, 1, e
	}
	return api.State{}, 0, e
}

// want: what the two orders answer, done one operation at a time.
func want(kind int, s api.State, a, b api.Op) int {
	s1, a1, _ := object.Apply(kind, s, a)
	s1, b1, _ := object.Apply(kind, s1, b)
	s2, b2, _ := object.Apply(kind, s, b)
	s2, a2, _ := object.Apply(kind, s2, a)
	if samples.Same(s1, s2) && a1 == a2 && b1 == b2 {
		return 1
	}
	return 0
}

// layers: calls of this object with the other operation beside theirs: named second, and named first.
func layers(kind int, other api.Op) []samples.Layer {
	return []samples.Layer{
		{
			Apply: func(s api.State, o api.Op) (api.State, int, api.Errno) { return both(kind, s, o, other) },
			Want:  func(s api.State, o api.Op) (api.State, int) { return api.State{}, want(kind, s, o, other) },
			Err:   api.ErrCommuteForm,
		},
		{
			Apply: func(s api.State, o api.Op) (api.State, int, api.Errno) { return both(kind, s, other, o) },
			Want:  func(s api.State, o api.Op) (api.State, int) { return api.State{}, want(kind, s, other, o) },
			Err:   api.ErrCommuteForm,
		},
	}
}

// first, second, look and scan: operations of row 1, in which the calls written out have their numbers.
func first(arg int) api.Op  { return api.Op{Code: api.CodeFirst, Row: 1, Arg: arg} }
func second(arg int) api.Op { return api.Op{Code: api.CodeSecond, Row: 1, Arg: arg} }
func look() api.Op          { return api.Op{Code: api.CodeLook, Row: 1} }
func scan() api.Op          { return api.Op{Code: api.CodeScan} }

// at: the same operation of another row.
func at(row int, o api.Op) api.Op {
	o.Row = row
	return o
}

// told is a pair of operations written out, with what it must answer.
type told struct {
	row  list
	a, b api.Op
	want bool
}

// ofStores: a value a row.
func ofStores() []told {
	return []told{
		{nil, first(5), first(5), false},
		{list{5}, first(5), first(5), true},
		{list{9}, first(5), first(5), false},
		{list{5}, first(5), first(6), false},
		{list{0}, first(255), first(0), false},
		{list{255}, first(255), first(255), true},

		{nil, first(5), second(5), false},
		{list{5}, first(5), second(5), false},
		{nil, second(0), second(255), true},
		{list{0}, second(0), second(0), false},
		{list{255}, second(0), second(255), false},

		{nil, look(), first(5), false},
		{list{5}, look(), first(5), true},
		{list{9}, look(), first(5), false},
		{list{0}, look(), first(0), true},
		{nil, look(), second(5), true},
		{list{5}, look(), second(5), false},
		{nil, look(), look(), true},
		{list{5}, look(), look(), true},

		// A scan is a sum: what nobody can see in it may go first.
		{nil, scan(), first(5), false},
		{nil, scan(), first(0), true},
		{list{5}, scan(), first(5), true},
		{list{5}, scan(), first(6), false},
		{nil, scan(), second(5), true},
		{list{0}, scan(), second(5), true},
		{list{1}, scan(), second(5), false},
		{list{1}, scan(), look(), true},
		{list{1}, scan(), scan(), true},
	}
}

// ofFds: the least number that is free.
func ofFds() []told {
	return []told{
		{nil, first(0), first(0), false},
		{list{0, 2}, first(0), first(255), false},
		{list{0, 1, 3}, first(0), first(0), false},
		{list{0, 1, 2, 3}, first(0), first(9), true},

		{nil, first(0), second(0), false},
		{nil, first(0), second(1), true},
		{list{0}, first(0), second(0), false},
		{list{0}, first(0), second(1), false},
		{list{1}, first(0), second(1), true},
		{list{0, 1}, first(0), second(255), true},
		{list{0, 1, 3}, first(0), second(3), true},
		{list{0, 1, 3}, first(0), second(1), false},
		{list{0, 1, 2, 3}, first(0), second(0), false},
		{list{0, 1, 2, 3}, first(0), second(3), false},
		{list{0, 1, 2, 3}, first(0), second(4), true},

		{nil, second(0), second(0), true},
		{list{0}, second(0), second(0), false},
		{list{1, 3}, second(3), second(3), false},
		{list{1, 3}, second(1), second(3), true},
		{list{1, 3}, second(1), second(2), true},
		{list{0, 1, 2, 3}, second(255), second(255), true},

		// It is one operation's answers alone that differ: neither the states nor the other's do.
		{nil, look(), first(0), false},
		{list{0, 1, 3}, look(), first(0), false},
		{list{0, 1, 2, 3}, look(), first(0), true},
		{nil, look(), second(0), true},
		{list{1}, look(), second(0), true},
		{list{1}, look(), second(1), false},
		{list{1}, look(), look(), true},

		{list{1}, scan(), first(0), false},
		{list{0, 1, 2, 3}, scan(), first(0), true},
		{list{1}, scan(), second(1), false},
		{list{1}, scan(), second(2), true},
		{list{1}, scan(), look(), true},
		{list{1}, scan(), scan(), true},
	}
}

// ofQueues: first in, first out.
func ofQueues() []told {
	return []told{
		// It is the states alone that differ: each time both are let in.
		{nil, first(5), first(6), false},
		{list{7, 7}, first(0), first(255), false},
		{nil, first(5), first(5), true},
		{list{7, 7}, first(0), first(0), true},
		// It is the answers alone: only the one that goes first is let in.
		{list{7, 7, 7}, first(5), first(5), false},
		{list{7, 7, 7}, first(5), first(6), false},
		{list{7, 7, 7, 7}, first(5), first(6), true},

		{nil, first(5), second(0), false},
		{list{5}, first(5), second(0), true},
		{list{7}, first(5), second(0), true},
		{list{7, 8, 9}, first(5), second(0), true},
		{list{7, 8, 9, 10}, first(5), second(0), false},
		{list{7, 7, 7, 7}, first(7), second(0), false},

		{nil, second(0), second(9), true},
		{list{7}, second(0), second(0), false},
		{list{7, 8}, second(0), second(0), false},
		{list{7, 7}, second(0), second(0), true},
		{list{0, 0, 255, 255}, second(0), second(255), true},
		{list{255, 0, 0, 0}, second(0), second(0), false},

		{nil, look(), first(5), false},
		{list{7, 8, 9}, look(), first(5), false},
		{list{7, 8, 9, 10}, look(), first(5), true},
		{nil, look(), second(0), true},
		{list{7}, look(), second(0), false},
		{list{7}, look(), look(), true},

		{list{7}, scan(), first(0), false},
		{list{7, 8, 9, 10}, scan(), first(0), true},
		{nil, scan(), second(0), true},
		{list{0}, scan(), second(0), false},
		{list{7}, scan(), look(), true},
		{list{7}, scan(), scan(), true},
	}
}

// everyTold: the pairs written out, at their objects' numbers.
func everyTold() [][]told {
	return [][]told{api.ObjectStore: ofStores(), api.ObjectFds: ofFds(), api.ObjectQueue: ofQueues()}
}

func TestPairsWrittenOut(t *testing.T) {
	for kind, all := range everyTold() {
		for _, x := range all {
			for _, s := range []api.State{samples.State(nil, x.row), samples.State(list{2}, x.row, nil, list{3})} {
				got, e := Both(kind, s, x.a, x.b)
				turned, f := Both(kind, s, x.b, x.a)
				if got != x.want || turned != x.want || e != api.OK || f != api.OK {
					t.Errorf("P8.1: object %d, %v, %v and %v: %v, %d; turned %v, %d; want %v", kind, s, x.a, x.b, got, e, turned, f, x.want)
				}
			}
		}
	}
}

func TestPairsWrittenOutOfEachRow(t *testing.T) {
	for kind, all := range everyTold() {
		for _, x := range all {
			if x.a.Code == api.CodeScan || x.b.Code == api.CodeScan {
				continue
			}
			for row := range 4 {
				s := samples.State(list{1}, nil, list{3}, list{2})
				s.Rows[row] = x.row
				if got, e := Both(kind, s, at(row, x.a), at(row, x.b)); got != x.want || e != api.OK {
					t.Errorf("P8.1: object %d, %v, %v and %v of row %d: %v, %d; want %v", kind, s, x.a, x.b, row, got, e, x.want)
				}
			}
		}
	}
}

func TestUnlikeRowsWrittenOut(t *testing.T) {
	// Of one row each of these pairs does not commute.
	for kind, all := range everyTold() {
		for _, x := range all {
			if x.want || x.a.Code == api.CodeScan || x.b.Code == api.CodeScan {
				continue
			}
			for _, row := range []int{0, 2, 3} {
				s := samples.State(x.row, x.row, x.row, x.row)
				if got, e := Both(kind, s, x.a, at(row, x.b)); !got || e != api.OK {
					t.Errorf("P8.2: object %d, %v, %v and, of row %d, %v: %v, %d", kind, s, x.a, row, x.b, got, e)
				}
			}
		}
	}
}

func TestScansSeeAllRows(t *testing.T) {
	for kind, row := range []list{{9}, {0, 1, 3}, {9, 9, 9}} {
		for _, o := range samples.Ops(1) {
			s := samples.State(row, row, row, row)
			// Each of these first ones puts something in, and each second one takes something out.
			want := o.Code == api.CodeLook || o.Code == api.CodeScan
			got, e := Both(kind, s, o, scan())
			turned, f := Both(kind, s, scan(), o)
			if got != want || turned != want || e != api.OK || f != api.OK {
				t.Errorf("P8.1: object %d, %v and a scan: %v, %d; turned %v, %d; want %v", kind, o, got, e, turned, f, want)
			}
		}
	}
}

func TestEachTwoOperations(t *testing.T) {
	ops := samples.Ops(0, 2, 255)
	for kind := range 3 {
		all := samples.FairStates(kind)
		if len(all) < 12 {
			t.Errorf("object %d: %d states", kind, len(all))
		}
		for _, other := range ops {
			if fault := layers(kind, other)[0].Calls(all, ops); fault != "" {
				t.Errorf("P8.1: object %d, beside %v: %s", kind, other, fault)
			}
		}
	}
}

func TestEachTwoOperationsTheOtherFirst(t *testing.T) {
	ops := samples.Ops(0, 1, 2, 3, 4, 255)
	for kind := range 3 {
		for _, other := range ops {
			if fault := layers(kind, other)[1].Calls(samples.FewStates(kind), ops); fault != "" {
				t.Errorf("P8.1: object %d, beside %v: %s", kind, other, fault)
			}
		}
	}
}

func TestUnlikeRowsCommute(t *testing.T) {
	ops := slices.DeleteFunc(samples.Ops(0, 3, 255), func(o api.Op) bool { return o.Code == api.CodeScan })
	for kind := range 3 {
		for _, s := range samples.FairStates(kind) {
			for _, a := range ops {
				for _, b := range ops {
					if a.Row == b.Row {
						continue
					}
					if got, e := Both(kind, s, a, b); !got || e != api.OK {
						t.Errorf("P8.2: object %d, %v, %v and %v: %v, %d", kind, s, a, b, got, e)
					}
				}
			}
		}
	}
}

func TestEveryArgument(t *testing.T) {
	for arg := range 256 {
		ops := samples.Ops(arg)
		for kind := range 3 {
			for _, other := range []api.Op{first(arg), first(255 - arg), second(arg), look(), scan()} {
				if fault := layers(kind, other)[0].Calls(samples.FewStates(kind), ops); fault != "" {
					t.Errorf("P8.1: object %d, beside %v: %s", kind, other, fault)
				}
			}
		}
	}
}

func TestAnOperationBesideItself(t *testing.T) {
	for _, x := range []struct {
		kind int
		row  list
		o    api.Op
		want bool
	}{
		{api.ObjectStore, list{0}, first(0), true},
		{api.ObjectStore, list{255}, first(255), true},
		{api.ObjectStore, nil, first(0), false},
		{api.ObjectStore, nil, second(0), true},
		{api.ObjectStore, list{0}, second(0), false},
		{api.ObjectFds, nil, first(0), false},
		{api.ObjectFds, list{0, 1, 2, 3}, first(0), true},
		{api.ObjectFds, list{3}, second(3), false},
		{api.ObjectFds, list{3}, second(0), true},
		{api.ObjectQueue, nil, first(255), true},
		{api.ObjectQueue, list{1, 2, 3}, first(255), false},
		{api.ObjectQueue, list{1, 2, 3, 4}, first(255), true},
		{api.ObjectQueue, list{0, 0}, second(0), true},
		{api.ObjectQueue, list{0, 1}, second(0), false},
	} {
		if got, e := Both(x.kind, samples.State(nil, x.row), x.o, x.o); got != x.want || e != api.OK {
			t.Errorf("P8.1: object %d, %v, %v beside itself: %v, %d; want %v", x.kind, x.row, x.o, got, e, x.want)
		}
	}
	for kind := range 3 {
		for _, s := range samples.FairStates(kind) {
			for _, o := range []api.Op{scan(), look(), at(3, look())} {
				if got, e := Both(kind, s, o, o); !got || e != api.OK {
					t.Errorf("P8.1: object %d, %v, %v beside itself: %v, %d", kind, s, o, got, e)
				}
			}
		}
	}
}

func TestNumbersThatAreNoObject(t *testing.T) {
	states := []api.State{{}, samples.State(list{0}, list{1}, list{2}, list{3}), samples.State(list{3, 0}), samples.State(list{-1})}
	ops := slices.Concat(samples.Ops(0, 255), samples.WrongOps())
	for _, kind := range samples.NoObjects() {
		for _, other := range []api.Op{{}, second(255), look(), scan(), {Code: -1}} {
			for _, l := range layers(kind, other) {
				for _, s := range states {
					for _, o := range ops {
						if fault := l.Refusal(s, o); fault != "" {
							t.Errorf("P8.1: object %d, beside %v: %s", kind, other, fault)
						}
					}
				}
			}
		}
	}
}

func TestStatesThatMayNotBe(t *testing.T) {
	for kind := range 3 {
		// A state is refused also where neither operation is of the wrong row, and where neither turns anything.
		for _, other := range []api.Op{first(0), at(3, second(3)), look(), scan(), {Code: 4}} {
			for _, l := range layers(kind, other) {
				if fault := l.WrongStates(samples.FewStates(kind), samples.WrongRows(kind)); fault != "" {
					t.Errorf("P8.1: object %d, beside %v: %s", kind, other, fault)
				}
			}
		}
	}
}

func TestOperationsThatMayNotBe(t *testing.T) {
	// Beside one that may be the wrong one is first or second; beside another wrong one both are.
	for kind := range 3 {
		for _, other := range slices.Concat(samples.Ops(0, 255), samples.WrongOps()) {
			for _, l := range layers(kind, other) {
				if fault := l.WrongOps(samples.FewStates(kind)); fault != "" {
					t.Errorf("P8.1: object %d, beside %v: %s", kind, other, fault)
				}
			}
		}
	}
}

func TestNothingIsChangedOrKept(t *testing.T) {
	for kind := -1; kind <= 3; kind++ {
		for _, s := range samples.FewStates(min(max(kind, 0), 2)) {
			for _, other := range append(samples.Ops(0, 3), api.Op{Code: -1}) {
				for _, l := range layers(kind, other) {
					if fault := l.Sharing([]api.State{s}, samples.Ops(0, 255)); fault != "" {
						t.Fatalf("R4: object %d, beside %v: %s", kind, other, fault)
					}
				}
			}
		}
	}
}

func TestAnswersHangOnNothingElse(t *testing.T) {
	for kind := range 3 {
		for _, s := range samples.FewStates(kind) {
			for _, l := range layers(kind, first(2)) {
				if fault := l.Together(s, samples.Ops(0, 3)); fault != "" {
					t.Errorf("R5: object %d: %s", kind, fault)
				}
			}
		}
	}
}
