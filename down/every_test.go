package down_test

import (
	"testing"

	"whenstead/api"
	"whenstead/down"
	"whenstead/plain"
)

// pairsOf tells of all pairs whether the second stands behind the first, or nothing if rows are no order.
func pairsOf(r []int) ([][]bool, bool) {
	less := make([][]bool, len(r))
	for i, s := range r {
		less[i] = make([]bool, len(r))
		for j := range r {
			less[i][j] = s>>j&1 == 1
		}
	}
	for k := range r {
		for i := range r {
			for j := range r {
				less[i][j] = less[i][j] || less[i][k] && less[k][j]
			}
		}
	}
	for i := range r {
		if less[i][i] {
			return nil, false
		}
	}
	return less, true
}

// isClosed asks all pairs of which the second alone is in a set.
func isClosed(less [][]bool, s int) bool {
	for i := range less {
		for j := range less {
			if less[i][j] && s>>i&1 == 0 && s>>j&1 == 1 {
				return false
			}
		}
	}
	return true
}

// wantClose adds what stands ahead of one of a set.
func wantClose(less [][]bool, s int) int {
	all := s
	for i := range less {
		for j := range less {
			if less[i][j] && s>>j&1 == 1 {
				all |= 1 << i
			}
		}
	}
	return all
}

// wantLast leaves out what stands ahead of another one of a set.
func wantLast(less [][]bool, s int) int {
	last := s
	for i := range less {
		for j := range less {
			if less[i][j] && s>>i&1 == 1 && s>>j&1 == 1 {
				last &^= 1 << i
			}
		}
	}
	return last
}

// hold all calls against the plain ways above, at all sets of an order's things.
func hold(t *testing.T, r []int) {
	t.Helper()
	less, ok := pairsOf(r)
	if !ok {
		holdClash(t, r)
		return
	}
	count := 0
	for s := range 1 << len(r) {
		is := isClosed(less, s)
		if is {
			count++
		}
		if got, err := down.Is(r, s); err != nil || got != is {
			t.Fatalf("Is %v %b: got %v, %v, want %v", r, s, got, err, is)
		}
		if got, err := down.Close(r, s); err != nil || got != wantClose(less, s) {
			t.Fatalf("Close %v %b: got %b, %v, want %b", r, s, got, err, wantClose(less, s))
		}
		if got, err := down.Last(r, s); err != nil || got != wantLast(less, s) {
			t.Fatalf("Last %v %b: got %b, %v, want %b", r, s, got, err, wantLast(less, s))
		}
	}
	if got, err := down.Count(r); err != nil || got != count {
		t.Fatalf("Count %v: got %d, %v, want %d", r, got, err, count)
	}
	for _, s := range []int{-1, 1 << len(r)} {
		tellAll(t, "no set", r, s, api.ErrRange)
	}
}

// holdClash: all calls tell that a thing stands behind itself, whatever the set.
func holdClash(t *testing.T, r []int) {
	t.Helper()
	if got, err := down.Count(r); plain.Told(err) != api.ErrClash || got != 0 {
		t.Fatalf("Count %v: got %d, %v", r, got, err)
	}
	for s := -1; s <= 1<<len(r); s++ {
		tellAll(t, "clash", r, s, api.ErrClash)
	}
}

// TestEvery holds 4.1 at all rows of up to four things.
func TestEvery(t *testing.T) {
	for n := range 5 {
		for k := range 1 << (n * n) {
			r := make([]int, n)
			for i := range r {
				r[i] = k >> (n * i) & (1<<n - 1)
			}
			hold(t, r)
		}
	}
}

// TestMany holds 4.1 at many orders of five to seven things, whose numbers do not go along the order.
func TestMany(t *testing.T) {
	seed := uint(1)
	next := func(n int) int { // numbers that look as if by chance, but are the same at each run
		seed = seed*6364136223846793005 + 1442695040888963407
		return int((seed >> 33) % uint(n))
	}
	for range 200 {
		n, full := 5+next(3), 1+next(8)
		place := make([]int, n)
		for i := range place {
			place[i] = i
			j := next(i + 1)
			place[i], place[j] = place[j], place[i]
		}
		r := make([]int, n)
		for j := range n {
			for i := range j {
				if next(9) < full {
					r[place[i]] |= 1 << place[j]
				}
			}
		}
		hold(t, r)
	}
}
