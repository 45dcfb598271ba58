package chain_test

import (
	"math"
	"math/bits"
	"slices"
	"testing"

	"whenstead/api"
	"whenstead/chain"
	"whenstead/plain"
)

// up: a row of n things, each of which has just the next one told behind it.
func up(n int) []int {
	r := make([]int, n)
	for i := range n - 1 {
		r[i] = 1 << (i + 1)
	}
	return r
}

// down: as up, but the greatest number stands first.
func down(n int) []int {
	r := make([]int, n)
	for i := 1; i < n; i++ {
		r[i] = 1 << (i - 1)
	}
	return r
}

// ring of n things: the first stands behind the last, too.
func ring(n int) []int {
	r := up(n)
	r[n-1] |= 1
	return r
}

// counted from a number on to below another one.
func counted(from, to int) []int {
	var l []int
	for i := from; i < to; i++ {
		l = append(l, i)
	}
	return l
}

// known: orders, and what is to come of them.
type known struct {
	name   string
	r      []int
	ranks  []int
	widest int
	rows   []int
}

// knownOrders were worked out by hand.
func knownOrders() []known {
	const n = api.MaxThings
	half := make([]int, n) // each of the first half stands ahead of all of the second one
	for i := range n / 2 {
		half[i] = (1<<n - 1) &^ (1<<(n/2) - 1)
	}
	turned := make([]int, n)
	for i := n / 2; i < n; i++ {
		turned[i] = 1<<(n/2) - 1
	}
	zeros, ones := make([]int, n/2), slices.Repeat([]int{1}, n/2)
	levels := slices.Concat(counted(0, n/2), counted(0, n/2))
	falling := counted(0, n)
	slices.Reverse(falling)
	return []known{
		{"nil", nil, nil, 0, nil},
		{"empty", []int{}, nil, 0, nil},
		{"one thing", []int{0}, []int{0}, 1, []int{0}},
		{"two side by side", []int{0, 0}, []int{0, 0}, 3, []int{0, 1}},
		{"two in a row", []int{2, 0}, []int{0, 1}, 1, []int{0, 0}},
		{"two in a row, turned", []int{0, 1}, []int{1, 0}, 1, []int{0, 0}},
		{"over another one", []int{2, 4, 0}, []int{0, 1, 2}, 1, []int{0, 0, 0}},
		{"over others, with one beside", []int{8, 4, 1, 0, 0}, []int{2, 0, 1, 3, 0}, 17, []int{0, 0, 0, 0, 1}},
		{"told twice over", []int{6, 4, 0}, []int{0, 1, 2}, 1, []int{0, 0, 0}},
		{"two ways to the last", []int{6, 8, 8, 0}, []int{0, 1, 1, 2}, 6, []int{0, 0, 1, 0}},
		{"a long way and a short one", []int{10, 4, 16, 16, 0}, []int{0, 1, 2, 1, 3}, 10, []int{0, 0, 0, 1, 0}},
		{"the last ahead of all", []int{0, 0, 0, 7}, []int{1, 1, 1, 0}, 7, []int{0, 1, 2, 0}},

		{"all side by side, as many as may be", make([]int, n), make([]int, n), 1<<n - 1, counted(0, n)},
		{"all in one row, as many as may be", up(n), counted(0, n), 1, make([]int, n)},
		{"all in one row, turned", down(n), falling, 1, make([]int, n)},
		{"half ahead of half", half, slices.Concat(zeros, ones), 1<<(n/2) - 1, levels},
		{"half behind half", turned, slices.Concat(ones, zeros), 1<<(n/2) - 1, levels},

		{"several widest: two rows", []int{2, 0, 8, 0}, []int{0, 1, 0, 1}, 5, []int{0, 0, 1, 1}},
		{"several widest: the least number, not the least thing", []int{6, 0, 0, 6}, []int{0, 1, 1, 0}, 6, []int{0, 0, 1, 1}},
		{"widest is no first or last level", []int{2, 28, 32, 32, 32, 0}, []int{0, 1, 2, 2, 2, 3}, 28, []int{0, 0, 0, 1, 2, 0}},
		{"no widest has a lesser number that is less wide", []int{14, 0, 0, 0}, []int{0, 1, 1, 1}, 14, []int{0, 0, 1, 2}},

		{"row by row needs a row more", []int{6, 0, 0, 2}, []int{0, 1, 1, 0}, 6, []int{0, 1, 0, 1}},
		{"row by row needs a row more, turned", []int{0, 9, 1, 0}, []int{1, 0, 0, 1}, 6, []int{0, 1, 0, 1}},
		{"row by row needs a row more, beside a row", []int{12, 32, 0, 0, 4, 0}, []int{0, 0, 1, 1, 0, 1}, 14, []int{0, 1, 2, 0, 2, 1}},
		{"row by row needs a row more, twice", []int{6, 0, 0, 2, 96, 0, 0, 32}, []int{0, 1, 1, 0, 0, 1, 1, 0}, 102, []int{0, 1, 0, 1, 2, 3, 2, 3}},
	}
}

// TestRanks holds 2.1.
func TestRanks(t *testing.T) {
	for _, c := range knownOrders() {
		if got, err := chain.Ranks(c.r); err != nil || !slices.Equal(got, c.ranks) {
			t.Errorf("%s: got %v, %v, want %v", c.name, got, err, c.ranks)
		}
	}
}

// TestWidest holds 2.1.
func TestWidest(t *testing.T) {
	for _, c := range knownOrders() {
		if got, err := chain.Widest(c.r); err != nil || got != c.widest {
			t.Errorf("%s: got %d, %v, want %d", c.name, got, err, c.widest)
		}
	}
}

// TestRows holds 2.2.
func TestRows(t *testing.T) {
	for _, c := range knownOrders() {
		if got, err := chain.Rows(c.r); err != nil || !slices.Equal(got, c.rows) {
			t.Errorf("%s: got %v, %v, want %v", c.name, got, err, c.rows)
		}
	}
}

// TestAsFewRowsAsWide: also where many ways of going row by row lead nowhere, there are as few rows as the widest set has things.
func TestAsFewRowsAsWide(t *testing.T) {
	for _, r := range [][]int{
		{2140, 96, 242, 54, 194, 192, 0, 64, 138, 10, 96, 0},
		{128, 2040, 1739, 1377, 1793, 1728, 1169, 0, 128, 128, 128, 129},
		{0, 576, 1289, 1793, 514, 537, 1029, 1853, 0, 0, 0, 1},
	} {
		widest, err := chain.Widest(r)
		rows, err2 := chain.Rows(r)
		less, ok := closed(r)
		if err != nil || err2 != nil || !ok || len(rows) != len(r) {
			t.Fatal(r, err, err2, ok, rows)
		}
		if n := rowsOf(less, rows); n != bits.OnesCount(uint(widest)) {
			t.Errorf("%v: %v has %d rows, widest %b", r, rows, n, widest)
		}
	}
}

// TestFaults holds what 2.1 and 2.2 tell of what is no order: as chapter 1's Check, in its order, and nothing beside it.
func TestFaults(t *testing.T) {
	const n = api.MaxThings
	with := func(r []int, i, s int) []int {
		r[i] = s
		return r
	}
	for _, c := range []struct {
		name string
		r    []int
		want api.Errno
	}{
		{"one more than may be, side by side", make([]int, n+1), api.ErrFull},
		{"one more than may be, in a row", up(n + 1), api.ErrFull},
		{"many more", make([]int, 1<<20), api.ErrFull},
		{"a thing too many", []int{0, 0, 8}, api.ErrRange},
		{"a thing too many, of most", with(make([]int, n), 0, 1<<n), api.ErrRange},
		{"a thing too many, of one", []int{2}, api.ErrRange},
		{"below 0", []int{0, -1}, api.ErrRange},
		{"below 0, low bits clear", []int{0, -4}, api.ErrRange},
		{"least number", []int{math.MinInt, 0}, api.ErrRange},
		{"greatest number", []int{0, math.MaxInt}, api.ErrRange},
		{"behind itself", []int{1}, api.ErrClash},
		{"behind itself, the last", []int{6, 0, 4}, api.ErrClash},
		{"behind itself over one", []int{2, 1}, api.ErrClash},
		{"behind itself over all of most", ring(n), api.ErrClash},
		{"too many, below 0, ring", with(ring(n+1), 3, -1), api.ErrFull},
		{"too many, ring", ring(n + 1), api.ErrFull},
		{"ring, then a thing too many", []int{2, 1, 8}, api.ErrRange},
		{"itself, then below 0", []int{1, -1}, api.ErrRange},
	} {
		if got, err := chain.Ranks(c.r); plain.Told(err) != c.want || len(got) != 0 {
			t.Errorf("%s: Ranks: got %v, %v, want %v", c.name, got, err, c.want)
		}
		if got, err := chain.Widest(c.r); plain.Told(err) != c.want || got != 0 {
			t.Errorf("%s: Widest: got %v, %v, want %v", c.name, got, err, c.want)
		}
		if got, err := chain.Rows(c.r); plain.Told(err) != c.want || len(got) != 0 {
			t.Errorf("%s: Rows: got %v, %v, want %v", c.name, got, err, c.want)
		}
	}
}
