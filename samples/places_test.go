package samples

import (
	"math"
	"slices"
	"testing"

	"chorus/api"
)

func TestBelowAndAround(t *testing.T) {
	for count, want := range [][]int{{}, {0}, {0, 1}, {0, 1, 2}, {0, 1, 2, 3}} {
		if got := Below(count); !slices.Equal(got, want) {
			t.Errorf("below %d: %v", count, got)
		}
		want = append(want, -1, count, math.MinInt, math.MaxInt)
		if got := Around(count); !slices.Equal(got, want) {
			t.Errorf("around %d: %v", count, got)
		}
	}
}

func TestPlacesAreWithinAndTheOthersOutside(t *testing.T) {
	for i, want := range [][]Place{{{0, 0}}, {{0, 0}, {1, 0}}, {{0, 0}, {0, 1}}, {{0, 0}, {0, 1}, {1, 0}, {1, 1}}} {
		c := api.Config{Replicas: 1 + i%2, Logs: 1 + i/2}
		if got := Places(c); !slices.Equal(got, want) {
			t.Errorf("%+v: %v", c, got)
		}
		none := NoPlaces(c)
		for _, p := range none {
			if slices.Contains(want, p) {
				t.Errorf("%+v: %v is within", c, p)
			}
		}
		for _, p := range []Place{{-1, 0}, {0, -1}, {c.Replicas, 0}, {0, c.Logs}, {-1, -1}, {c.Replicas, c.Logs}, {math.MinInt, 0}, {0, math.MaxInt}, {math.MaxInt, -1}, {256, 0}, {0, 1 << 32}} {
			if !slices.Contains(none, p) {
				t.Errorf("%+v: %v is not among them", c, p)
			}
		}
	}
}
