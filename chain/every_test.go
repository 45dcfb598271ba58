package chain_test

import (
	"math/bits"
	"slices"
	"testing"

	"whenstead/api"
	"whenstead/chain"
	"whenstead/plain"
)

// closed tells of all pairs whether the second stands behind the first, or nothing if rows are no order.
func closed(r []int) ([][]bool, bool) {
	less := make([][]bool, len(r))
	for i, s := range r {
		less[i] = make([]bool, len(r))
		for j := range r {
			less[i][j] = s>>j&1 == 1
		}
	}
	for k := range r {
		for i := range r {
			for j := range r {
				less[i][j] = less[i][j] || less[i][k] && less[k][j]
			}
		}
	}
	for i := range r {
		if less[i][i] {
			return nil, false
		}
	}
	return less, true
}

// all tells whether a relation holds of all pairs of a set's things.
func all(n, s int, of func(i, j int) bool) bool {
	for j := range n {
		for i := range j {
			if s>>i&1 == 1 && s>>j&1 == 1 && !of(i, j) {
				return false
			}
		}
	}
	return true
}

// wantRanks goes over all sets that stand in a row ahead of a thing.
func wantRanks(less [][]bool) []int {
	n := len(less)
	ranks := make([]int, n)
	for s := range 1 << n {
		if !all(n, s, func(i, j int) bool { return less[i][j] || less[j][i] }) {
			continue
		}
		for k := range ranks {
			ahead := true
			for i := range n {
				ahead = ahead && (s>>i&1 == 0 || less[i][k])
			}
			if ahead {
				ranks[k] = max(ranks[k], bits.OnesCount(uint(s)))
			}
		}
	}
	return ranks
}

// wantWidest goes over all sets from the greatest number down, so that the least of the best is left.
func wantWidest(less [][]bool) int {
	n, best := len(less), 0
	for s := 1<<n - 1; s >= 0; s-- {
		if bits.OnesCount(uint(s)) >= bits.OnesCount(uint(best)) && all(n, s, func(i, j int) bool { return !less[i][j] && !less[j][i] }) {
			best = s
		}
	}
	return best
}

// wantRows goes over all lists of numbers of rows, the last place fastest, and keeps the first of those with fewest rows.
func wantRows(less [][]bool) []int {
	n := len(less)
	l := make([]int, n)
	var best []int
	fewest := n + 1
	for {
		if m := rowsOf(less, l); m < fewest {
			best, fewest = slices.Clone(l), m
		}
		k := n - 1
		for k >= 0 && l[k] == n-1 {
			l[k] = 0
			k--
		}
		if k < 0 {
			return best
		}
		l[k]++
	}
}

// rowsOf tells how many rows a list has, and more than there are things if one is none.
func rowsOf(less [][]bool, l []int) int {
	for j := range l {
		for i := range j {
			if l[i] == l[j] && !less[i][j] && !less[j][i] {
				return len(l) + 1
			}
		}
	}
	sorted := slices.Sorted(slices.Values(l))
	return len(slices.Compact(sorted))
}

// hold all three calls against the plain ways above.
func hold(t *testing.T, r []int) {
	t.Helper()
	less, ok := closed(r)
	told := api.OK
	var ranks, rows []int
	widest := 0
	if ok {
		ranks, widest, rows = wantRanks(less), wantWidest(less), wantRows(less)
	} else {
		told = api.ErrClash
	}
	if got, err := chain.Ranks(r); plain.Told(err) != told || !slices.Equal(got, ranks) {
		t.Fatalf("Ranks %v: got %v, %v, want %v, %v", r, got, err, ranks, told)
	}
	if got, err := chain.Widest(r); plain.Told(err) != told || got != widest {
		t.Fatalf("Widest %v: got %v, %v, want %v, %v", r, got, err, widest, told)
	}
	if got, err := chain.Rows(r); plain.Told(err) != told || !slices.Equal(got, rows) {
		t.Fatalf("Rows %v: got %v, %v, want %v, %v", r, got, err, rows, told)
	}
}

// TestEvery holds 2.1 and 2.2 at all rows of up to four things.
func TestEvery(t *testing.T) {
	for n := range 5 {
		for k := range 1 << (n * n) {
			r := make([]int, n)
			for i := range r {
				r[i] = k >> (n * i) & (1<<n - 1)
			}
			hold(t, r)
		}
	}
}

// TestMany holds 2.1 and 2.2 at many orders of five and six things, whose numbers do not go along the order.
func TestMany(t *testing.T) {
	seed := uint(1)
	next := func(n int) int { // numbers that look as if by chance, but are the same at each run
		seed = seed*6364136223846793005 + 1442695040888963407
		return int((seed >> 33) % uint(n))
	}
	for range 400 {
		n, full := 5+next(2), 1+next(8)
		place := counted(0, n)
		for i := range place {
			j := next(i + 1)
			place[i], place[j] = place[j], place[i]
		}
		r := make([]int, n)
		for j := range n {
			for i := range j {
				if next(9) < full {
					r[place[i]] |= 1 << place[j]
				}
			}
		}
		hold(t, r)
	}
}
