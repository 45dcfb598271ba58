package down_test

import (
	"math"
	"testing"

	"whenstead/api"
	"whenstead/down"
	"whenstead/plain"
)

// rising: a row of n things, each of which has just the next one told behind it.
func rising(n int) []int {
	r := make([]int, n)
	for i := range n - 1 {
		r[i] = 1 << (i + 1)
	}
	return r
}

// falling: as rising, but the greatest number stands first.
func falling(n int) []int {
	r := make([]int, n)
	for i := 1; i < n; i++ {
		r[i] = 1 << (i - 1)
	}
	return r
}

// ring of n things: the first stands behind the last, too.
func ring(n int) []int {
	r := rising(n)
	r[n-1] |= 1
	return r
}

// halves: each of the first half stands ahead of all of the second one.
func halves(n int) []int {
	r := make([]int, n)
	for i := range n / 2 {
		r[i] = (1<<n - 1) &^ (1<<(n/2) - 1)
	}
	return r
}

// pairs: each of the second half stands ahead of one of the first one.
func pairs(n int) []int {
	r := make([]int, n)
	for i := range n / 2 {
		r[n/2+i] = 1 << i
	}
	return r
}

// twoRows, of which the second begins at the half.
func twoRows(n int) []int {
	r := rising(n)
	r[n/2-1] = 0
	return r
}

// TestSets holds what 4.1 says of Close, Is and Last, worked out by hand.
func TestSets(t *testing.T) {
	const n = api.MaxThings
	const most = 1<<n - 1
	steps := []int{2, 4, 0, 0}         // 0, 1, 2 in a row; 2 stands behind 0 over 1 alone; 3 beside them
	mixed := []int{8, 4, 1, 0, 0}      // 1, 2, 0, 3 in a row; 4 beside them
	diamond := []int{6, 8, 8, 0}       // 0 ahead of 1 and 2, and both of 3
	joined := []int{4, 4, 8, 0, 8, 16} // 0 and 1 ahead of 2, and 5 of 4; 2 and 4 ahead of 3
	for _, c := range []struct {
		name        string
		r           []int
		s           int
		close, last int
		is          bool
	}{
		{"nothing of nothing", nil, 0, 0, 0, true},
		{"nothing of nothing, empty", []int{}, 0, 0, 0, true},
		{"nothing of one", []int{0}, 0, 0, 0, true},
		{"one of one", []int{0}, 1, 1, 1, true},

		{"none", steps, 0, 0, 0, true},
		{"the first", steps, 1, 1, 1, true},
		{"the second without the first", steps, 2, 3, 2, false},
		{"the second with the first", steps, 3, 3, 2, true},
		{"the last alone: over another one", steps, 4, 7, 4, false},
		{"the last with the first: one between is missing", steps, 5, 7, 4, false},
		{"the last with the second", steps, 6, 7, 4, false},
		{"the whole row", steps, 7, 7, 4, true},
		{"one beside", steps, 8, 8, 8, true},
		{"one beside, and the first", steps, 9, 9, 9, true},
		{"one beside, and the last", steps, 12, 15, 12, false},
		{"all", steps, 15, 15, 12, true},

		{"against the numbers: the last", mixed, 8, 15, 8, false},
		{"against the numbers: the first", mixed, 2, 2, 2, true},
		{"against the numbers: the first two", mixed, 6, 6, 4, true},
		{"against the numbers: the third with the first", mixed, 3, 7, 1, false},
		{"against the numbers: one beside, and the last", mixed, 24, 31, 24, false},
		{"against the numbers: all", mixed, 31, 31, 24, true},

		{"two sides without what is ahead", diamond, 6, 7, 6, false},
		{"two sides with what is ahead", diamond, 7, 7, 6, true},
		{"one side of two", diamond, 3, 3, 2, true},
		{"both ends", diamond, 9, 15, 8, false},
		{"one side is missing", diamond, 11, 15, 8, false},
		{"all but what is ahead of all", diamond, 14, 15, 8, false},

		{"ahead of several: each adds its own", joined, 20, 55, 20, false},
		{"ahead of several: the end", joined, 8, 63, 8, false},
		{"ahead of several: one of two is missing", joined, 5, 7, 4, false},
		{"ahead of several: closed on both sides", joined, 55, 55, 20, true},
		{"ahead of several: firsts", joined, 35, 35, 35, true},

		{"told twice over", []int{6, 4, 0}, 4, 7, 4, false},
		{"told twice over, with the first", []int{6, 4, 0}, 5, 7, 4, false},

		{"side by side, none of most", make([]int, n), 0, 0, 0, true},
		{"side by side, all of most", make([]int, n), most, most, most, true},
		{"side by side, some of most", make([]int, n), 0xa5a, 0xa5a, 0xa5a, true},
		{"side by side, the last of most", make([]int, n), 1 << (n - 1), 1 << (n - 1), 1 << (n - 1), true},
		{"one row, none of most", rising(n), 0, 0, 0, true},
		{"one row, the first of most", rising(n), 1, 1, 1, true},
		{"one row, the last of most", rising(n), 1 << (n - 1), most, 1 << (n - 1), false},
		{"one row, both ends of most", rising(n), 1<<(n-1) | 1, most, 1 << (n - 1), false},
		{"one row, the first half of most", rising(n), 1<<(n/2) - 1, 1<<(n/2) - 1, 1 << (n/2 - 1), true},
		{"one row, all of most", rising(n), most, most, 1 << (n - 1), true},
		{"one row turned, the last of most", falling(n), 1, most, 1, false},
		{"one row turned, the first of most", falling(n), 1 << (n - 1), 1 << (n - 1), 1 << (n - 1), true},
		{"one row turned, all of most", falling(n), most, most, 1, true},
		{"halves, one of the second", halves(n), 1 << (n - 1), 1<<(n/2) - 1 | 1<<(n-1), 1 << (n - 1), false},
		{"halves, the first", halves(n), 1<<(n/2) - 1, 1<<(n/2) - 1, 1<<(n/2) - 1, true},
		{"halves, all", halves(n), most, most, most &^ (1<<(n/2) - 1), true},
		{"pairs, the first half", pairs(n), 1<<(n/2) - 1, most, 1<<(n/2) - 1, false},
		{"pairs, the second half", pairs(n), most &^ (1<<(n/2) - 1), most &^ (1<<(n/2) - 1), most &^ (1<<(n/2) - 1), true},
		{"two rows, the last of the second", twoRows(n), 1 << (n - 1), most &^ (1<<(n/2) - 1), 1 << (n - 1), false},
	} {
		if got, err := down.Close(c.r, c.s); err != nil || got != c.close {
			t.Errorf("%s: Close %v %b: got %b, %v, want %b", c.name, c.r, c.s, got, err, c.close)
		}
		if got, err := down.Is(c.r, c.s); err != nil || got != c.is {
			t.Errorf("%s: Is %v %b: got %v, %v, want %v", c.name, c.r, c.s, got, err, c.is)
		}
		if got, err := down.Last(c.r, c.s); err != nil || got != c.last {
			t.Errorf("%s: Last %v %b: got %b, %v, want %b", c.name, c.r, c.s, got, err, c.last)
		}
	}
}

// TestCount holds what 4.1 says of Count, worked out by hand: none and all are among the closed sets.
func TestCount(t *testing.T) {
	const n = api.MaxThings
	for _, c := range []struct {
		name string
		r    []int
		want int
	}{
		{"nil: none, which is all", nil, 1},
		{"empty", []int{}, 1},
		{"one thing: none and all", []int{0}, 2},
		{"two side by side", []int{0, 0}, 4},
		{"two in a row", []int{2, 0}, 3},
		{"two in a row, turned", []int{0, 1}, 3},
		{"over another one", []int{2, 4, 0}, 4},
		{"told twice over", []int{6, 4, 0}, 4},
		{"one beside a row", []int{2, 4, 0, 0}, 8},
		{"one beside a row against the numbers", []int{8, 4, 1, 0, 0}, 10},
		{"two ways to the last", []int{6, 8, 8, 0}, 6},
		{"the first ahead of all", []int{14, 0, 0, 0}, 9},
		{"the last behind all", []int{8, 8, 8, 0}, 9},
		{"all side by side, as many as may be", make([]int, n), 4096},
		{"all in one row, as many as may be", rising(n), n + 1},
		{"all in one row, turned", falling(n), n + 1},
		{"half ahead of half", halves(n), 64 + 63},
		{"pairs", pairs(n), 729},
		{"two rows", twoRows(n), 49},
	} {
		if got, err := down.Count(c.r); err != nil || got != c.want {
			t.Errorf("%s: got %d, %v, want %d", c.name, got, err, c.want)
		}
	}
}

// TestNoSet holds what 4.1 tells of an s that is no set of things.
func TestNoSet(t *testing.T) {
	const n = api.MaxThings
	for _, c := range []struct {
		name string
		r    []int
		s    int
	}{
		{"a thing of nothing", nil, 1},
		{"below 0 of nothing", nil, -1},
		{"a thing too many of one", []int{0}, 2},
		{"a thing too many of one, with the one", []int{0}, 3},
		{"a thing too many", []int{2, 4, 0, 0}, 16},
		{"a thing too many, beside all", []int{2, 4, 0, 0}, 31},
		{"a thing too many of most", make([]int, n), 1 << n},
		{"a thing too many of most, in a row", rising(n), 1<<(n+1) - 1},
		{"below 0", []int{2, 4, 0, 0}, -1},
		{"below 0, low bits clear", []int{2, 4, 0, 0}, -16},
		{"below 0, of most", rising(n), -1 << n},
		{"least number", []int{0, 0}, math.MinInt},
		{"greatest number", []int{0, 0}, math.MaxInt},
		{"low bits clear up to the half", []int{0, 0}, 1 << 32},
		{"the greatest bit that may be", []int{0, 0}, 1 << 62},
	} {
		tellAll(t, c.name, c.r, c.s, api.ErrRange)
	}
}

// tellAll: all calls that take a set tell an error, and answer nothing beside it.
func tellAll(t *testing.T, name string, r []int, s int, want api.Errno) {
	t.Helper()
	if got, err := down.Close(r, s); plain.Told(err) != want || got != 0 {
		t.Errorf("%s: Close %d: got %v, %v, want %v", name, s, got, err, want)
	}
	if got, err := down.Is(r, s); plain.Told(err) != want || got {
		t.Errorf("%s: Is %d: got %v, %v, want %v", name, s, got, err, want)
	}
	if got, err := down.Last(r, s); plain.Told(err) != want || got != 0 {
		t.Errorf("%s: Last %d: got %v, %v, want %v", name, s, got, err, want)
	}
}

// TestFaults holds what 4.1 tells of what is no order: as chapter 1's Check, in its order, ahead of what is told of s.
func TestFaults(t *testing.T) {
	const n = api.MaxThings
	with := func(r []int, i, s int) []int {
		r[i] = s
		return r
	}
	for _, c := range []struct {
		name string
		r    []int
		want api.Errno
	}{
		{"one more than may be, side by side", make([]int, n+1), api.ErrFull},
		{"one more than may be, in a row", rising(n + 1), api.ErrFull},
		{"many more", make([]int, 1<<20), api.ErrFull},
		{"a thing too many", []int{0, 0, 8}, api.ErrRange},
		{"a thing too many, of most", with(make([]int, n), 0, 1<<n), api.ErrRange},
		{"a thing too many, of one", []int{2}, api.ErrRange},
		{"below 0", []int{0, -1}, api.ErrRange},
		{"below 0, low bits clear", []int{0, -4}, api.ErrRange},
		{"least number", []int{math.MinInt, 0}, api.ErrRange},
		{"greatest number", []int{0, math.MaxInt}, api.ErrRange},
		{"behind itself", []int{1}, api.ErrClash},
		{"behind itself, the last", []int{6, 0, 4}, api.ErrClash},
		{"behind itself over one", []int{2, 1}, api.ErrClash},
		{"behind itself over one, ahead of the rest", []int{2, 5, 0}, api.ErrClash},
		{"behind itself over all of most", ring(n), api.ErrClash},
		{"too many, below 0, ring", with(ring(n+1), 3, -1), api.ErrFull},
		{"too many, ring", ring(n + 1), api.ErrFull},
		{"ring, then a thing too many", []int{2, 1, 8}, api.ErrRange},
		{"itself, then below 0", []int{1, -1}, api.ErrRange},
	} {
		if got, err := down.Count(c.r); plain.Told(err) != c.want || got != 0 {
			t.Errorf("%s: Count: got %v, %v, want %v", c.name, got, err, c.want)
		}
		for _, s := range []int{0, 1, 3, 1 << n, -1, math.MinInt, math.MaxInt} {
			tellAll(t, c.name, c.r, s, c.want)
		}
	}
}
