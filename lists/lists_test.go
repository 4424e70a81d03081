package lists

import (
	"slices"
	"testing"

	"chorus/api"
)

func TestAllIsSoOfEachOne(t *testing.T) {
	even := func(x int) bool { return x%2 == 0 }
	for _, x := range []struct {
		list []int
		want bool
	}{
		{nil, true}, {[]int{}, true}, {[]int{2}, true}, {[]int{1}, false}, {[]int{2, 4, 6}, true},
		{[]int{1, 4, 6}, false}, {[]int{2, 3, 6}, false}, {[]int{2, 4, 5}, false}, {[]int{2, 4, 6, 1}[:3], true},
	} {
		if got := All(x.list, even); got != x.want {
			t.Errorf("%v: %t", x.list, got)
		}
	}
}

func TestCopyIsTheSameInMemoryOfItsOwn(t *testing.T) {
	if c := Copy([]int(nil)); c != nil {
		t.Errorf("of nil: %v", c)
	}
	room := []api.Slot{{Thread: 1}, {Thread: 2}, {Thread: 3}}
	for n := range len(room) {
		given, old := room[:n], slices.Clone(room)
		c := Copy(given)
		if !slices.Equal(c, given) {
			t.Errorf("of %v: %v", given, c)
		}
		c = c[:cap(c)]
		for i := range c {
			c[i].Thread = 9
		}
		if !slices.Equal(room, old) {
			t.Errorf("R4: of %v: what was given is changed: %v", given, room)
		}
	}
}
