package extend_test

import (
	"math"
	"slices"
	"testing"

	"whenstead/api"
	"whenstead/extend"
	"whenstead/plain"
)

// up: a row of n things, each of which has just the next one told behind it.
func up(n int) []int {
	r := make([]int, n)
	for i := range n - 1 {
		r[i] = 1 << (i + 1)
	}
	return r
}

// down: as up, but the greatest number stands first.
func down(n int) []int {
	r := make([]int, n)
	for i := 1; i < n; i++ {
		r[i] = 1 << (i - 1)
	}
	return r
}

// ring of n things: the first stands behind the last, too.
func ring(n int) []int {
	r := up(n)
	r[n-1] |= 1
	return r
}

// counted from a number on to below another one.
func counted(from, to int) []int {
	var l []int
	for i := from; i < to; i++ {
		l = append(l, i)
	}
	return l
}

// falling from below a number on to 0.
func falling(n int) []int {
	l := counted(0, n)
	slices.Reverse(l)
	return l
}

// known: orders, and what is to come of them.
type known struct {
	name  string
	r     []int
	first []int
	count int
}

// knownOrders were worked out by hand.
func knownOrders() []known {
	const n = api.MaxThings
	const sideBySide = 479001600 // 12!
	half := make([]int, n)       // each of the first half stands ahead of all of the second one
	turned := make([]int, n)     // and behind
	two := up(n)                 // two rows of six
	two[n/2-1] = 0
	ladder := slices.Clone(two) // and each of the first one ahead of one of the second one
	pairs := make([]int, n)     // each of the second half stands ahead of one of the first one
	for i := range n / 2 {
		half[i] = (1<<n - 1) &^ (1<<(n/2) - 1)
		turned[n/2+i] = 1<<(n/2) - 1
		ladder[i] |= 1 << (n/2 + i)
		pairs[n/2+i] = 1 << i
	}
	return []known{
		{"nil", nil, nil, 1},
		{"empty", []int{}, nil, 1},
		{"one thing", []int{0}, []int{0}, 1},
		{"two side by side", []int{0, 0}, []int{0, 1}, 2},
		{"two in a row", []int{2, 0}, []int{0, 1}, 1},
		{"two in a row, turned", []int{0, 1}, []int{1, 0}, 1},
		{"over another one", []int{2, 4, 0}, []int{0, 1, 2}, 1},
		{"over another one, turned", []int{0, 1, 2}, []int{2, 1, 0}, 1},
		{"over others, with one beside", []int{8, 4, 1, 0, 0}, []int{1, 2, 0, 3, 4}, 5},
		{"told twice over", []int{6, 4, 0}, []int{0, 1, 2}, 1},
		{"two ways to the last", []int{6, 8, 8, 0}, []int{0, 1, 2, 3}, 2},
		{"the first ahead of all", []int{14, 0, 0, 0}, []int{0, 1, 2, 3}, 6},
		{"the last ahead of all", []int{0, 0, 0, 7}, []int{3, 0, 1, 2}, 6},
		{"the least behind the last", []int{0, 0, 0, 1}, []int{1, 2, 3, 0}, 12},
		{"a thing deep down ahead of one that is not", []int{2, 0, 0}, []int{0, 1, 2}, 3},
		{"half of the pairs told", []int{12, 8, 0, 0}, []int{0, 1, 2, 3}, 5},
		{"half of the pairs told, turned", []int{0, 0, 1, 3}, []int{2, 3, 0, 1}, 5},

		{"all side by side, as many as may be", make([]int, n), counted(0, n), sideBySide},
		{"all in one row, as many as may be", up(n), counted(0, n), 1},
		{"all in one row, turned", down(n), falling(n), 1},
		{"half ahead of half", half, counted(0, n), 720 * 720},
		{"half behind half", turned, slices.Concat(counted(n/2, n), counted(0, n/2)), 720 * 720},
		{"two rows", two, counted(0, n), 924},
		{"a ladder", ladder, counted(0, n), 132},
		{"pairs", pairs, []int{6, 0, 7, 1, 8, 2, 9, 3, 10, 4, 11, 5}, sideBySide / 64},
	}
}

// TestFirst holds 3.1; what comes first is a row, too.
func TestFirst(t *testing.T) {
	for _, c := range knownOrders() {
		if got, err := extend.First(c.r); err != nil || !slices.Equal(got, c.first) {
			t.Errorf("%s: got %v, %v, want %v", c.name, got, err, c.first)
		}
		if got, err := extend.Is(c.r, c.first); err != nil || !got {
			t.Errorf("%s: Is: got %v, %v", c.name, got, err)
		}
	}
}

// TestCount holds 3.1.
func TestCount(t *testing.T) {
	for _, c := range knownOrders() {
		if got, err := extend.Count(c.r); err != nil || got != c.count {
			t.Errorf("%s: got %d, %v, want %d", c.name, got, err, c.count)
		}
	}
}

// TestIs holds 3.1: what is a row, and what is told first of a list that is none.
func TestIs(t *testing.T) {
	const n = api.MaxThings
	steps := []int{2, 4, 0, 0} // 0, 1, 2 in a row, over each other; 3 beside them
	twice := counted(0, n)
	twice[n-1] = 0
	beyond := counted(0, n)
	beyond[n-1] = n
	for _, c := range []struct {
		name string
		r, l []int
		is   bool
		told api.Errno
	}{
		{"nothing", nil, nil, true, api.OK},
		{"nothing, empty", []int{}, []int{}, true, api.OK},
		{"one", []int{0}, []int{0}, true, api.OK},
		{"in a row", steps, []int{0, 1, 2, 3}, true, api.OK},
		{"another one between", steps, []int{0, 3, 1, 2}, true, api.OK},
		{"another one first", steps, []int{3, 0, 1, 2}, true, api.OK},
		{"side by side, most", make([]int, n), falling(n), true, api.OK},
		{"in a row, most", down(n), falling(n), true, api.OK},

		{"next to each other turned", steps, []int{1, 0, 2, 3}, false, api.OK},
		{"over another one turned", []int{2, 4, 0}, []int{0, 2, 1}, false, api.OK},
		{"over one that comes last", []int{2, 4, 0}, []int{2, 0, 1}, false, api.OK},
		{"one of two ahead is missing", []int{4, 4, 0}, []int{1, 2, 0}, false, api.OK},
		{"the last two turned, most", up(n), append(counted(0, n-2), n-1, n-2), false, api.OK},
		{"all turned, most", up(n), falling(n), false, api.OK},
		{"twice", []int{0, 0}, []int{0, 0}, false, api.OK},
		{"twice, the second", []int{0, 0}, []int{1, 1}, false, api.OK},
		{"twice, far apart", steps, []int{0, 1, 2, 0}, false, api.OK},
		{"twice, most", make([]int, n), twice, false, api.OK},

		{"none of nothing", nil, []int{0}, false, api.ErrShape},
		{"no number", []int{0}, nil, false, api.ErrShape},
		{"one too few", steps, []int{0, 1, 2}, false, api.ErrShape},
		{"one too many", steps, []int{0, 1, 2, 3, 3}, false, api.ErrShape},
		{"far too many", steps, make([]int, 1<<20), false, api.ErrShape},
		{"one too many, and turned", steps, []int{2, 1, 0, 3, 4}, false, api.ErrShape},
		{"one too few, and twice", steps, []int{0, 0, 0}, false, api.ErrShape},
		{"one too few, and no thing", steps, []int{-1, 0, 1}, false, api.ErrShape},
		{"one too many, and no thing", []int{0}, []int{1, 1}, false, api.ErrShape},

		{"no thing", []int{0}, []int{1}, false, api.ErrRange},
		{"no thing, below 0", []int{0}, []int{-1}, false, api.ErrRange},
		{"no thing, the least number", steps, []int{0, math.MinInt, 1, 2}, false, api.ErrRange},
		{"no thing, the greatest number", steps, []int{0, 1, 2, math.MaxInt}, false, api.ErrRange},
		{"no thing, by 64 more", steps, []int{0, 1, 66, 3}, false, api.ErrRange},
		{"no thing, the last of most", make([]int, n), beyond, false, api.ErrRange},

		{"no thing, then twice", steps, []int{0, 4, 0, 0}, false, api.ErrRange},
		{"no thing, then turned", steps, []int{-1, 2, 1, 0}, false, api.ErrRange},
		{"twice, then no thing", steps, []int{0, 0, 4, 1}, false, api.OK},
		{"turned, then no thing", steps, []int{1, -1, 0, 2}, false, api.OK},
		{"turned at the last but one, then no thing", steps, []int{3, 0, 2, 4}, false, api.OK},
		{"no thing twice", []int{0, 0}, []int{2, 2}, false, api.ErrRange},
	} {
		if got, err := extend.Is(c.r, c.l); got != c.is || plain.Told(err) != c.told || (err == nil) != (c.told == api.OK) {
			t.Errorf("%s: %v of %v: got %v, %v, want %v, %v", c.name, c.l, c.r, got, err, c.is, c.told)
		}
	}
}

// TestFaults holds what 3.1 tells of what is no order: as chapter 1's Check, in its order, ahead of all that may be wrong with a list, and nothing beside it.
func TestFaults(t *testing.T) {
	const n = api.MaxThings
	with := func(r []int, i, s int) []int {
		r[i] = s
		return r
	}
	for _, c := range []struct {
		name string
		r    []int
		want api.Errno
	}{
		{"one more than may be, side by side", make([]int, n+1), api.ErrFull},
		{"one more than may be, in a row", up(n + 1), api.ErrFull},
		{"many more", make([]int, 1<<20), api.ErrFull},
		{"a thing too many", []int{0, 0, 8}, api.ErrRange},
		{"a thing too many, of most", with(make([]int, n), 0, 1<<n), api.ErrRange},
		{"a thing too many, of one", []int{2}, api.ErrRange},
		{"below 0", []int{0, -1}, api.ErrRange},
		{"below 0, low bits clear", []int{0, -4}, api.ErrRange},
		{"least number", []int{math.MinInt, 0}, api.ErrRange},
		{"greatest number", []int{0, math.MaxInt}, api.ErrRange},
		{"behind itself", []int{1}, api.ErrClash},
		{"behind itself, the last", []int{6, 0, 4}, api.ErrClash},
		{"behind itself over one", []int{2, 1}, api.ErrClash},
		{"behind itself over one, ahead of the rest", []int{2, 5, 0}, api.ErrClash},
		{"behind itself over all of most", ring(n), api.ErrClash},
		{"too many, below 0, ring", with(ring(n+1), 3, -1), api.ErrFull},
		{"too many, ring", ring(n + 1), api.ErrFull},
		{"ring, then a thing too many", []int{2, 1, 8}, api.ErrRange},
		{"itself, then below 0", []int{1, -1}, api.ErrRange},
	} {
		if got, err := extend.First(c.r); plain.Told(err) != c.want || len(got) != 0 {
			t.Errorf("%s: First: got %v, %v, want %v", c.name, got, err, c.want)
		}
		if got, err := extend.Count(c.r); plain.Told(err) != c.want || got != 0 {
			t.Errorf("%s: Count: got %v, %v, want %v", c.name, got, err, c.want)
		}
		k := len(c.r)
		for _, l := range [][]int{nil, {0}, counted(0, k), falling(k), make([]int, k), slices.Repeat([]int{-1}, k), counted(0, k+1)} {
			if got, err := extend.Is(c.r, l); plain.Told(err) != c.want || got {
				t.Errorf("%s: Is, %d numbers: got %v, %v, want %v", c.name, len(l), got, err, c.want)
			}
		}
	}
}
