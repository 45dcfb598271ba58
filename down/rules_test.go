package down_test

import (
	"errors"
	"fmt"
	"math"
	"slices"
	"testing"

	"whenstead/api"
	"whenstead/down"
	"whenstead/plain"
)

// answer of one call: number and is are what it answers beside the error.
type answer struct {
	name   string
	number int
	is     bool
	err    error
}

// askAll calls everything that the chapter lists.
func askAll(r []int, s int) []answer {
	closed, err1 := down.Close(r, s)
	is, err2 := down.Is(r, s)
	count, err3 := down.Count(r)
	last, err4 := down.Last(r, s)
	return []answer{
		{"Close", closed, false, err1},
		{"Is", 0, is, err2},
		{"Count", count, false, err3},
		{"Last", last, false, err4},
	}
}

// textOf answers, by which they are held against each other.
func textOf(all []answer) string {
	s := ""
	for _, x := range all {
		s += fmt.Sprintln(x.name, x.number, x.is, plain.Told(x.err))
	}
	return s
}

// wildNumbers: sets, and numbers that are none.
func wildNumbers() []int {
	return []int{0, 1, 2, 3, 4, 8, 4094, 4095, 4096, -1, -2, math.MinInt, math.MaxInt, 1 << 62, 1 << 32}
}

// wildRows: orders, and rows that are none, of all kinds.
func wildRows() [][]int {
	out := [][]int{nil, {}, rising(2), rising(5), rising(12), rising(13), falling(12), ring(2), ring(12), ring(13), make([]int, 64), make([]int, 65), make([]int, 1000)}
	for _, x := range wildNumbers() {
		out = append(out, []int{x})
		for _, y := range wildNumbers() {
			out = append(out, []int{x, y}, []int{0, x, 0, y})
			for _, n := range []int{12, 13, 64} {
				r := make([]int, n)
				r[0], r[n-1] = x, y
				out = append(out, r)
			}
		}
	}
	return out
}

// TestAnythingGoes holds P1: no call panics, and beside an error there is nothing; and P3: an error is a number that has a name, not OK.
func TestAnythingGoes(t *testing.T) {
	for _, r := range wildRows() {
		for _, s := range wildNumbers() {
			for _, got := range askAll(r, s) {
				var e api.Errno
				switch {
				case got.err == nil:
					if got.number < 0 || got.number > 1<<len(r) || got.name == "Count" && got.number <= len(r) {
						t.Fatalf("%s %v %d: got %d", got.name, r, s, got.number)
					}
				case got.number != 0 || got.is:
					t.Fatalf("%s %v %d: %v beside %v, %v", got.name, r, s, got.err, got.number, got.is)
				case !errors.As(got.err, &e) || e != api.ErrFull && e != api.ErrRange && e != api.ErrClash:
					t.Fatalf("%s %v %d: error %v", got.name, r, s, got.err)
				}
			}
		}
	}
}

// TestNothingWrittenInto holds P2: neither the rows nor what lies behind them in memory is written into, also where a call fails.
func TestNothingWrittenInto(t *testing.T) {
	for _, r := range wildRows() {
		memory := append(slices.Clone(r), 77, 78, 79)
		before := slices.Clone(memory)
		for _, s := range []int{0, 1, 3, 4095, 4096, -1} {
			askAll(memory[:len(r)], s)
			if !slices.Equal(memory, before) {
				t.Fatalf("%v became %v", before, memory)
			}
		}
	}
}

// TestNothingKept holds P2: the rows are asked as they are at each call, and what was asked before is not to be seen.
func TestNothingKept(t *testing.T) {
	r := []int{2, 4, 0}
	want := textOf([]answer{{"Close", 7, false, nil}, {"Is", 0, false, nil}, {"Count", 4, false, nil}, {"Last", 4, false, nil}})
	changed := textOf([]answer{{"Close", 5, false, nil}, {"Is", 0, true, nil}, {"Count", 8, false, nil}, {"Last", 5, false, nil}})
	for range 2 {
		r[0], r[1] = 2, 4
		if got := textOf(askAll(r, 5)); got != want {
			t.Errorf("got %s, want %s", got, want)
		}
		r[0], r[1] = 0, 0
		if got := textOf(askAll(r, 5)); got != changed {
			t.Errorf("of the changed rows: got %s, want %s", got, changed)
		}
		askAll(ring(3), 5)
	}
}

// TestEmptyIsNil holds P4.
func TestEmptyIsNil(t *testing.T) {
	for _, s := range wildNumbers() {
		want := textOf(askAll(nil, s))
		for _, empty := range [][]int{{}, make([]int, 0, 20), []int{1, -1, 4096}[:0]} {
			if got := textOf(askAll(empty, s)); got != want {
				t.Errorf("%d: got %s, of nil %s", s, got, want)
			}
		}
	}
}

// TestBehindTheLengthNotRead holds P4.
func TestBehindTheLengthNotRead(t *testing.T) {
	for s := -1; s <= 16; s++ {
		want := textOf(askAll([]int{6, 0, 0, 2}, s))
		for _, junk := range [][]int{{-1, 4096, math.MinInt}, make([]int, 20), {15, 31, 1}} {
			memory := append([]int{6, 0, 0, 2}, junk...)
			if got := textOf(askAll(memory[:4], s)); got != want {
				t.Errorf("%d, before %v: got %s, want %s", s, junk, got, want)
			}
		}
	}
}
