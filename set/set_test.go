package set_test

import (
	"math"
	"slices"
	"testing"

	"whenstead/set"
)

// TestThings: each thing once, the least first, and no more of them than are asked for.
func TestThings(t *testing.T) {
	for _, c := range []struct {
		s    int
		want []int
	}{
		{0, nil},
		{1, []int{0}},
		{6, []int{1, 2}},
		{4095, []int{0, 1, 2, 3, 4, 5, 6, 7, 8, 9, 10, 11}},
		{1<<62 | 1, []int{0, 62}},
		{math.MinInt, []int{63}},
	} {
		if got := slices.Collect(set.Things(c.s)); !slices.Equal(got, c.want) {
			t.Errorf("Things %d: got %v, want %v", c.s, got, c.want)
		}
		if got := set.Size(c.s); got != len(c.want) {
			t.Errorf("Size %d: got %d, want %d", c.s, got, len(c.want))
		}
		if len(c.want) > 0 && set.Least(c.s) != c.want[0] {
			t.Errorf("Least %d: got %d, want %d", c.s, set.Least(c.s), c.want[0])
		}
		for i := range 64 {
			if set.Has(c.s, i) != slices.Contains(c.want, i) {
				t.Errorf("Has %d %d: got %v", c.s, i, set.Has(c.s, i))
			}
		}
	}
	for i := range set.Things(6) {
		if i != 1 {
			t.Errorf("went on with %d", i)
		}
		break
	}
}

// TestIs: the edges of what is a set, and what is a thing.
func TestIs(t *testing.T) {
	for _, c := range []struct {
		s, n int
		want bool
	}{
		{0, 0, true}, {1, 0, false}, {-1, 0, false},
		{1, 1, true}, {2, 1, false},
		{4095, 12, true}, {4096, 12, false}, {-1, 12, false}, {-4096, 12, false},
		{math.MinInt, 63, false}, {math.MaxInt, 63, true}, {math.MaxInt, 62, false},
	} {
		if got := set.Is(c.s, c.n); got != c.want {
			t.Errorf("Is %d %d: got %v", c.s, c.n, got)
		}
	}
	for _, c := range []struct {
		i, n int
		want bool
	}{
		{0, 0, false}, {0, 1, true}, {1, 1, false}, {-1, 1, false}, {11, 12, true}, {12, 12, false},
		{math.MinInt, 12, false}, {math.MaxInt, 12, false},
	} {
		if got := set.IsThing(c.i, c.n); got != c.want {
			t.Errorf("IsThing %d %d: got %v", c.i, c.n, got)
		}
	}
}

// TestReached: each thing to which a set leads, over others, too, also itself where a ring does; and what is handed in stays.
func TestReached(t *testing.T) {
	for _, c := range []struct{ r, want []int }{
		{nil, nil},
		{[]int{0}, []int{0}},
		{[]int{1}, []int{1}},
		{[]int{2, 4, 8, 0}, []int{14, 12, 8, 0}},
		{[]int{0, 1, 2, 4}, []int{0, 1, 3, 7}},
		{[]int{2, 1, 1, 0}, []int{3, 3, 3, 0}},
		{[]int{2, 4, 1, 1, 0}, []int{7, 7, 7, 7, 0}},
		{[]int{16, 0, 2, 4, 8}, []int{30, 0, 2, 6, 14}},
		{[]int{2, 4, 8, 16, 1}, []int{31, 31, 31, 31, 31}},
		{[]int{16, 1, 2, 4, 8}, []int{31, 31, 31, 31, 31}},
	} {
		r := slices.Clone(c.r)
		if got := set.Reached(r); !slices.Equal(got, c.want) || !slices.Equal(r, c.r) {
			t.Errorf("Reached %v: got %v, want %v; %v is left", c.r, got, c.want, r)
		}
	}
}
