package order_test

import (
	"slices"
	"testing"

	"whenstead/api"
	"whenstead/order"
	"whenstead/plain"
)

// leads tells whether steps lead from a to b, one at least: it walks them one by one.
func leads(r []int, a, b int) bool {
	seen := map[int]bool{}
	var walk func(i int) bool
	walk = func(i int) bool {
		for j := range r {
			if r[i]&(1<<j) == 0 || seen[j] {
				continue
			}
			seen[j] = true
			if j == b || walk(j) {
				return true
			}
		}
		return false
	}
	return walk(a)
}

// wanted tells what stands behind and what ahead of each thing, or nothing if rows are no order.
func wanted(r []int) (behind, ahead []int, ok bool) {
	behind, ahead = make([]int, len(r)), make([]int, len(r))
	for a := range r {
		if leads(r, a, a) {
			return nil, nil, false
		}
		for b := range r {
			if leads(r, a, b) {
				behind[a] |= 1 << b
				ahead[b] |= 1 << a
			}
		}
	}
	return behind, ahead, true
}

// everyRows calls of with all lists of n sets of n things.
func everyRows(n int, of func(r []int)) {
	r := make([]int, n)
	for k := range 1 << (n * n) {
		for i := range r {
			r[i] = k >> (n * i) & (1<<n - 1)
		}
		of(r)
	}
}

// TestEvery holds 1.1 and 1.2 against a walk, at all rows of up to four things.
func TestEvery(t *testing.T) {
	for n := range 5 {
		everyRows(n, func(r []int) {
			behind, ahead, ok := wanted(r)
			told := api.OK
			if !ok {
				told = api.ErrClash
			}
			if err := order.Check(r); plain.Told(err) != told {
				t.Fatalf("Check %v: got %v, want %v", r, err, told)
			}
			if got, err := order.Behind(r); plain.Told(err) != told || !slices.Equal(got, behind) {
				t.Fatalf("Behind %v: got %v, %v, want %v, %v", r, got, err, behind, told)
			}
			if got, err := order.Turned(r); plain.Told(err) != told || !slices.Equal(got, ahead) {
				t.Fatalf("Turned %v: got %v, %v, want %v, %v", r, got, err, ahead, told)
			}
			if ok {
				everyStep(t, r, behind)
			}
		})
	}
}

// everyStep holds Less and With of an order against a walk, at all pairs of things.
func everyStep(t *testing.T, r, behind []int) {
	for a := range r {
		for b := range r {
			if is, err := order.Less(r, a, b); err != nil || is != (behind[a]&(1<<b) != 0) {
				t.Fatalf("Less %v %d %d: got %v, %v", r, a, b, is, err)
			}
			more := slices.Clone(r)
			more[a] |= 1 << b
			want, _, ok := wanted(more)
			told := api.OK
			if !ok {
				told = api.ErrClash
			}
			if got, err := order.With(r, a, b); plain.Told(err) != told || !slices.Equal(got, want) {
				t.Fatalf("With %v %d %d: got %v, %v, want %v, %v", r, a, b, got, err, want, told)
			}
		}
	}
}
