package oper

import (
	"math"
	"strconv"
	"sync"
	"testing"

	"chorus/api"
)

// goodOps: every operation that may be, told without the package, code by code.
func goodOps() []api.Op {
	ops := []api.Op{{Code: 3}}
	for row := range 4 {
		ops = append(ops, api.Op{Code: 2, Row: row})
		for arg := range 256 {
			ops = append(ops, api.Op{Code: 0, Row: row, Arg: arg}, api.Op{Code: 1, Row: row, Arg: arg})
		}
	}
	return ops
}

// wide: numbers about each edge, and those that a byte would cut down to one that may be.
func wide() []int {
	return []int{math.MinInt, -1 << 32, -256, -255, -2, -1, 0, 1, 2, 3, 4, 5, 127, 128, 254, 255, 256, 257, 258, 259, 260, 1 << 32, math.MaxInt}
}

// badOps: all operations of wide numbers, but for those that may be.
func badOps() []api.Op {
	good := map[api.Op]int{}
	for _, o := range goodOps() {
		good[o] = 1
	}
	var ops []api.Op
	for _, code := range wide() {
		for _, row := range wide() {
			for _, arg := range wide() {
				if o := (api.Op{Code: code, Row: row, Arg: arg}); good[o] == 0 {
					ops = append(ops, o)
				}
			}
		}
	}
	return ops
}

// bytesOf: an operation's numbers in one byte each.
func bytesOf(o api.Op) string {
	return string([]byte{byte(o.Code), byte(o.Row), byte(o.Arg)})
}

// edge is an operation at an edge that the document names, and whether it may be.
type edge struct {
	name string
	op   api.Op
	may  bool
}

// codeEdges: each code and the numbers just outside; arguments and rows that some codes have not.
func codeEdges() []edge {
	return []edge{
		{"all zero", api.Op{}, true},
		{"below the first code", api.Op{Code: -1}, false},
		{"CodeFirst", api.Op{Code: api.CodeFirst, Row: 1, Arg: 7}, true},
		{"CodeSecond", api.Op{Code: api.CodeSecond, Row: 1, Arg: 7}, true},
		{"CodeLook", api.Op{Code: api.CodeLook}, true},
		{"CodeScan", api.Op{Code: api.CodeScan}, true},
		{"above the last code", api.Op{Code: api.CodeScan + 1}, false},
		{"CodeLook, the last row", api.Op{Code: api.CodeLook, Row: api.Rows - 1}, true},
		{"CodeLook, a row too far", api.Op{Code: api.CodeLook, Row: api.Rows}, false},
		{"CodeLook, a row below 0", api.Op{Code: api.CodeLook, Row: -1}, false},
		{"CodeLook, an argument", api.Op{Code: api.CodeLook, Arg: 1}, false},
		{"CodeLook, MaxArg", api.Op{Code: api.CodeLook, Row: 2, Arg: api.MaxArg}, false},
		{"CodeLook, an argument below 0", api.Op{Code: api.CodeLook, Arg: -1}, false},
		{"CodeScan, an argument", api.Op{Code: api.CodeScan, Arg: 1}, false},
		{"CodeScan, an argument below 0", api.Op{Code: api.CodeScan, Arg: -1}, false},
		{"CodeScan, a row", api.Op{Code: api.CodeScan, Row: 1}, false},
		{"CodeScan, the last row", api.Op{Code: api.CodeScan, Row: api.Rows - 1}, false},
		{"CodeScan, a row below 0", api.Op{Code: api.CodeScan, Row: -1}, false},
		{"CodeScan, a row and an argument", api.Op{Code: api.CodeScan, Row: 1, Arg: 1}, false},
	}
}

// partEdges: of the codes that update, the first and last rows and arguments, and those just outside.
func partEdges() []edge {
	var edges []edge
	for _, code := range []int{api.CodeFirst, api.CodeSecond} {
		name := "code " + strconv.Itoa(code)
		edges = append(edges,
			edge{name + ", below the first row", api.Op{Code: code, Row: -1}, false},
			edge{name + ", the first row", api.Op{Code: code, Row: 0, Arg: 3}, true},
			edge{name + ", the last row", api.Op{Code: code, Row: api.Rows - 1, Arg: 3}, true},
			edge{name + ", above the last row", api.Op{Code: code, Row: api.Rows}, false},
			edge{name + ", an argument below 0", api.Op{Code: code, Arg: -1}, false},
			edge{name + ", argument 0", api.Op{Code: code, Row: 2}, true},
			edge{name + ", MaxArg", api.Op{Code: code, Row: 2, Arg: api.MaxArg}, true},
			edge{name + ", above MaxArg", api.Op{Code: code, Arg: api.MaxArg + 1}, false},
			edge{name + ", the last row and MaxArg", api.Op{Code: code, Row: api.Rows - 1, Arg: api.MaxArg}, true},
		)
	}
	return edges
}

func TestEdges(t *testing.T) {
	for _, x := range append(codeEdges(), partEdges()...) {
		if May(x.op) != x.may {
			t.Errorf("P2.1: %s: May %t", x.name, !x.may)
		}
		if updates := x.may && x.op.Code < 2; Updates(x.op) != updates {
			t.Errorf("P2.1: %s: Updates %t", x.name, !updates)
		}
		want, wantError := "", api.ErrOperForm
		if x.may {
			want, wantError = bytesOf(x.op), api.OK
		}
		if s, e := Put(x.op); s != want || e != wantError {
			t.Errorf("P2.2: %s: Put %q, %d", x.name, s, e)
		}
	}
}

func TestEveryOperationThatMayBe(t *testing.T) {
	for _, o := range goodOps() {
		if !May(o) {
			t.Errorf("P2.1: %v: May false", o)
		}
		if updates := o.Code == 0 || o.Code == 1; Updates(o) != updates {
			t.Errorf("P2.1: %v: Updates %t", o, !updates)
		}
		s, e := Put(o)
		if s != bytesOf(o) || e != api.OK {
			t.Errorf("P2.2: %v: Put %q, %d", o, s, e)
		}
		if back, e := Get(s); back != o || e != api.OK {
			t.Errorf("P2.2: %v: Get of Put %v, %d", o, back, e)
		}
	}
}

func TestOperationsThatMayNotBe(t *testing.T) {
	for _, o := range badOps() {
		if May(o) || Updates(o) {
			t.Errorf("P2.1: %v: May %t, Updates %t", o, May(o), Updates(o))
		}
		if s, e := Put(o); s != "" || e != api.ErrOperForm {
			t.Errorf("P2.2: %v: Put %q, %d", o, s, e)
		}
	}
}

func TestPutTellsCodeRowArg(t *testing.T) {
	if s, e := Put(api.Op{Code: 1, Row: 3, Arg: 200}); s != "\x01\x03\xc8" || e != api.OK {
		t.Errorf("P2.2: Put %q, %d", s, e)
	}
	if o, e := Get("\x01\x03\xc8"); o != (api.Op{Code: 1, Row: 3, Arg: 200}) || e != api.OK {
		t.Errorf("P2.2: Get %v, %d", o, e)
	}
}

// textsOfPut: what Put should tell, and of which operation.
func textsOfPut() map[string]api.Op {
	texts := map[string]api.Op{}
	for _, o := range goodOps() {
		texts[bytesOf(o)] = o
	}
	return texts
}

func TestGetOfEveryTextOfThreeBytes(t *testing.T) {
	texts := textsOfPut()
	told := 0
	for n := range 1 << 24 {
		s := string([]byte{byte(n >> 16), byte(n >> 8), byte(n)})
		o, e := Get(s)
		if e != api.OK {
			if o != (api.Op{}) || e != api.ErrOperForm {
				t.Fatalf("P2.2: Get of %q: %v, %d", s, o, e)
			}
			continue
		}
		if want, good := texts[s]; !good || o != want {
			t.Fatalf("P2.2: Get of %q: %v, %d", s, o, e)
		}
		told++
	}
	// No text comes twice, so as many as Put has are all that it has.
	if told != len(texts) {
		t.Errorf("P2.2: Get told %d operations of %d", told, len(texts))
	}
}

func TestGetRefusesOtherLengths(t *testing.T) {
	texts := []string{"", "\x00", "\x03", "\x00\x00", "\x02\x00", "\x00\x00\x00\x00", "\x00\x00\x00\x00\x00\x00", string(make([]byte, 1<<16))}
	for _, o := range goodOps() {
		s := bytesOf(o)
		texts = append(texts, s[:1], s[:2], s[1:], s+"\x00", "\x00"+s, s+" ", s+"\n", s+s)
	}
	for _, s := range texts {
		if o, e := Get(s); o != (api.Op{}) || e != api.ErrOperForm {
			t.Fatalf("P2.2: Get of %d bytes that begin with %q: %v, %d", len(s), s[:min(len(s), 8)], o, e)
		}
	}
}

func TestGetRefusesTextsOfNoOperation(t *testing.T) {
	for _, s := range []string{
		"\x04\x00\x00", "\xff\x00\x00", "\x00\x04\x00", "\x01\xff\x00", "\x02\x04\x00",
		"\x02\x00\x01", "\x02\x03\xff", "\x03\x00\x01", "\x03\x01\x00", "\x03\x03\xff",
		"000", "abc", "€", "\xff\xff\xff",
	} {
		if o, e := Get(s); o != (api.Op{}) || e != api.ErrOperForm {
			t.Errorf("P2.2: Get of %q: %v, %d", s, o, e)
		}
	}
}

func TestAnswersHangOnNothingElse(t *testing.T) {
	faults := make([]string, 8)
	var wait sync.WaitGroup
	for i := range faults {
		wait.Go(func() { faults[i] = callAll(200) })
	}
	wait.Wait()
	for _, fault := range faults {
		if fault != "" {
			t.Error("R5: " + fault)
		}
	}
}

// callAll calls all of them of the same arguments, again and again; "" if each answer is the same every time.
func callAll(times int) string {
	good, bad := api.Op{Code: 1, Row: 2, Arg: 9}, api.Op{Code: 4}
	for n := range times {
		s, e := Put(good)
		o, f := Get(s)
		none, g := Put(bad)
		zero, h := Get("\x04\x00\x00")
		if s != "\x01\x02\x09" || o != good || e != api.OK || f != api.OK || !May(good) || !Updates(good) {
			return "another answer at call " + strconv.Itoa(n)
		}
		if none != "" || zero != (api.Op{}) || g != api.ErrOperForm || h != api.ErrOperForm || May(bad) || Updates(bad) {
			return "another refusal at call " + strconv.Itoa(n)
		}
	}
	return ""
}
