package table_test

import (
	"math"
	"testing"

	"whenstead/api"
	"whenstead/plain"
	"whenstead/table"
)

// refused: a step that tells an error, and changes nothing that can be asked.
func refused(t *testing.T, x *table.Table, procs int, s step, want api.Errno) {
	t.Helper()
	before := stateOf(x, procs)
	if err := s.do(x); plain.Told(err) != want {
		t.Errorf("%v at %s: got %v, want %v", s, before, err, want)
	}
	if got := stateOf(x, procs); got != before {
		t.Errorf("%v was refused: %s became %s", s, before, got)
	}
}

// farNumbers: none of them is a process of a table of so many, though some would be of a greater one.
func farNumbers(procs int) []int {
	return []int{procs, procs + 1, 5, 6, 60, -1, -2, -procs, 1 << 31, 1 << 32, 1<<32 + 1, -1 << 32, math.MinInt, math.MinInt + 1, math.MaxInt}
}

// TestNewRefused holds 10.1: no process, fewer, and too many.
func TestNewRefused(t *testing.T) {
	for _, procs := range []int{0, -1, -2, -5, 6, 7, 60, 1 << 31, 1 << 32, 1<<32 + 1, 1<<32 + 5, math.MinInt, math.MinInt + 1, math.MaxInt} {
		if x, err := table.New(procs); x != nil || plain.Told(err) != api.ErrRange {
			t.Errorf("New(%d): got %v, %v", procs, x, err)
		}
	}
}

// tables of all sizes: nobody wrote; some did, and told some; and all wrote as often as may be.
func tables(t *testing.T, each func(x *table.Table, procs int)) {
	for procs := 1; procs <= api.MaxProcs; procs++ {
		for busy := range 3 {
			x := tableOf(t, procs)
			if busy > 0 {
				done(t, x, write(0), write(procs-1))
				for to := 1; to < procs; to++ {
					done(t, x, tell(to-1, to), write(to))
				}
			}
			for p := 0; p < procs && busy > 1; p++ {
				for x.Write(p) == nil {
				}
			}
			each(x, procs)
		}
	}
}

// TestWriteRefused holds 10.1: there is no such process, also when all wrote as often as may be.
func TestWriteRefused(t *testing.T) {
	tables(t, func(x *table.Table, procs int) {
		for _, p := range farNumbers(procs) {
			refused(t, x, procs, write(p), api.ErrRange)
		}
		for p := range procs {
			want := api.OK
			if x.Knows(p, p, p) == 60 {
				want = api.ErrFull
			}
			if err := x.Write(p); plain.Told(err) != want {
				t.Errorf("%d of %d: got %v, want %v", p, procs, err, want)
			}
		}
	})
}

// TestTellRange holds 10.1: there is no process from, or to, or neither, and that comes ahead of that they are the same.
func TestTellRange(t *testing.T) {
	tables(t, func(x *table.Table, procs int) {
		for _, bad := range farNumbers(procs) {
			for p := range procs {
				refused(t, x, procs, tell(bad, p), api.ErrRange)
				refused(t, x, procs, tell(p, bad), api.ErrRange)
			}
			for _, other := range farNumbers(procs) {
				refused(t, x, procs, tell(bad, other), api.ErrRange)
			}
			refused(t, x, procs, tell(bad, bad), api.ErrRange)
		}
	})
}

// TestTellItself holds 10.1: each is refused, and each that is told by another one is not.
func TestTellItself(t *testing.T) {
	tables(t, func(x *table.Table, procs int) {
		for from := range procs {
			refused(t, x, procs, tell(from, from), api.ErrClash)
			for to := range procs {
				if to != from {
					done(t, x, tell(from, to))
				}
			}
		}
	})
}

// TestNotThere holds 10.1: Knows and Stable tell -1 at processes that are not there, at each place, and change nothing.
func TestNotThere(t *testing.T) {
	tables(t, func(x *table.Table, procs int) {
		before := stateOf(x, procs)
		for _, bad := range farNumbers(procs) {
			for p := range procs {
				for q := range procs {
					none(t, x.Knows(bad, p, q), bad, p, q)
					none(t, x.Knows(p, bad, q), p, bad, q)
					none(t, x.Knows(p, q, bad), p, q, bad)
				}
				none(t, x.Knows(bad, bad, p), bad, bad, p)
				none(t, x.Knows(bad, p, bad), bad, p, bad)
				none(t, x.Knows(p, bad, bad), p, bad, bad)
				none(t, x.Stable(bad, p), bad, p)
				none(t, x.Stable(p, bad), p, bad)
			}
			none(t, x.Knows(bad, bad, bad), bad, bad, bad)
			none(t, x.Stable(bad, bad), bad, bad)
		}
		if got := stateOf(x, procs); got != before {
			t.Errorf("%s became %s", before, got)
		}
	})
}

// none: what is told of processes that are not there.
func none(t *testing.T, got int, asked ...int) {
	t.Helper()
	if got != -1 {
		t.Errorf("%v: got %d", asked, got)
	}
}
