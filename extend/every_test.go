package extend_test

import (
	"slices"
	"testing"

	"whenstead/api"
	"whenstead/extend"
	"whenstead/plain"
)

// closed tells of all pairs whether the second stands behind the first, or nothing if rows are no order.
func closed(r []int) ([][]bool, bool) {
	less := make([][]bool, len(r))
	for i, s := range r {
		less[i] = make([]bool, len(r))
		for j := range r {
			less[i][j] = s>>j&1 == 1
		}
	}
	for k := range r {
		for i := range r {
			for j := range r {
				less[i][j] = less[i][j] || less[i][k] && less[k][j]
			}
		}
	}
	for i := range r {
		if less[i][i] {
			return nil, false
		}
	}
	return less, true
}

// wantIs goes over the places: what is to be told of a list as long as there are things.
func wantIs(less [][]bool, l []int) (bool, api.Errno) {
	for k, x := range l {
		if x < 0 || x >= len(less) {
			return false, api.ErrRange
		}
		if slices.Contains(l[:k], x) {
			return false, api.OK
		}
		for y := range less {
			if less[y][x] && !slices.Contains(l[:k], y) {
				return false, api.OK
			}
		}
	}
	return true, api.OK
}

// lists of n numbers, each from a number on to below another one, the last place fastest.
func lists(n, from, to int) [][]int {
	out := [][]int{nil}
	for range n {
		var longer [][]int
		for _, l := range out {
			for x := from; x < to; x++ {
				longer = append(longer, append(slices.Clone(l), x))
			}
		}
		out = longer
	}
	return out
}

// hold all three calls against going over all of some lists, in the order of their first numbers, then of their second ones, and so on.
func hold(t *testing.T, r []int, all [][]int) {
	t.Helper()
	less, ok := closed(r)
	if !ok {
		holdClash(t, r)
		return
	}
	var first []int
	count := 0
	for _, l := range all {
		is, told := wantIs(less, l)
		if got, err := extend.Is(r, l); got != is || plain.Told(err) != told {
			t.Fatalf("Is %v %v: got %v, %v, want %v, %v", r, l, got, err, is, told)
		}
		if is && count == 0 {
			first = l
		}
		if is {
			count++
		}
	}
	if got, err := extend.First(r); err != nil || !slices.Equal(got, first) {
		t.Fatalf("First %v: got %v, %v, want %v", r, got, err, first)
	}
	if got, err := extend.Count(r); err != nil || got != count || count == 0 {
		t.Fatalf("Count %v: got %v, %v, want %v", r, got, err, count)
	}
}

// holdClash: all three calls tell that a thing stands behind itself.
func holdClash(t *testing.T, r []int) {
	t.Helper()
	first, err1 := extend.First(r)
	count, err2 := extend.Count(r)
	is, err3 := extend.Is(r, counted(0, len(r)))
	if len(first) != 0 || count != 0 || is {
		t.Fatalf("%v: got %v, %v, %v", r, first, count, is)
	}
	for _, err := range []error{err1, err2, err3} {
		if plain.Told(err) != api.ErrClash {
			t.Fatalf("%v: got %v, %v, %v", r, err1, err2, err3)
		}
	}
}

// TestEvery holds 3.1 at all rows of up to four things, with all lists, also such with a number below and beyond.
func TestEvery(t *testing.T) {
	for n := range 5 {
		all := lists(n, -1, n+1)
		for k := range 1 << (n * n) {
			r := make([]int, n)
			for i := range r {
				r[i] = k >> (n * i) & (1<<n - 1)
			}
			hold(t, r, all)
		}
	}
}

// TestMany holds 3.1 at many orders of five and six things, whose numbers do not go along the order.
func TestMany(t *testing.T) {
	seed := uint(1)
	next := func(n int) int { // numbers that look as if by chance, but are the same at each run
		seed = seed*6364136223846793005 + 1442695040888963407
		return int((seed >> 33) % uint(n))
	}
	five, six := lists(5, 0, 5), lists(6, 0, 6)
	for range 100 {
		all, full := five, 1+next(8)
		if next(4) == 0 {
			all = six
		}
		n := len(all[0])
		place := counted(0, n)
		for i := range place {
			j := next(i + 1)
			place[i], place[j] = place[j], place[i]
		}
		r := make([]int, n)
		for j := range n {
			for i := range j {
				if next(9) < full {
					r[place[i]] |= 1 << place[j]
				}
			}
		}
		hold(t, r, all)
	}
}
