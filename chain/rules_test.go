package chain_test

import (
	"errors"
	"fmt"
	"math"
	"slices"
	"testing"

	"whenstead/api"
	"whenstead/chain"
	"whenstead/plain"
)

// answer of one call: list and set are what it answers beside the error.
type answer struct {
	name string
	list []int
	set  int
	err  error
}

// askAll calls everything that the chapter lists.
func askAll(r []int) []answer {
	ranks, err1 := chain.Ranks(r)
	widest, err2 := chain.Widest(r)
	rows, err3 := chain.Rows(r)
	return []answer{
		{"Ranks", ranks, 0, err1},
		{"Widest", nil, widest, err2},
		{"Rows", rows, 0, err3},
	}
}

// textOf answers, by which they are held against each other; an empty list is as nil.
func textOf(all []answer) string {
	s := ""
	for _, x := range all {
		s += fmt.Sprintln(x.name, x.list, x.set, plain.Told(x.err))
	}
	return s
}

// wildRows: orders, and rows that are none, of all kinds.
func wildRows() [][]int {
	wild := []int{0, 1, 2, 3, 4, 8, 4094, 4095, 4096, -1, -2, math.MinInt, math.MaxInt, 1 << 62, 1 << 32}
	out := [][]int{nil, {}, up(2), up(5), up(12), up(13), down(12), ring(2), ring(12), ring(13), make([]int, 64), make([]int, 65), make([]int, 1000)}
	for _, x := range wild {
		out = append(out, []int{x})
		for _, y := range wild {
			out = append(out, []int{x, y}, []int{0, x, 0, y})
			for _, n := range []int{12, 13, 64} {
				r := make([]int, n)
				r[0], r[n-1] = x, y
				out = append(out, r)
			}
		}
	}
	return out
}

// TestAnythingGoes holds P1: no call panics, and beside an error there is nothing; and P3: an error is a number that has a name, not OK.
func TestAnythingGoes(t *testing.T) {
	for _, r := range wildRows() {
		for _, got := range askAll(r) {
			var e api.Errno
			switch {
			case got.err == nil:
				if got.name != "Widest" && len(got.list) != len(r) {
					t.Fatalf("%s %v: %d numbers", got.name, r, len(got.list))
				}
			case len(got.list) != 0 || got.set != 0:
				t.Fatalf("%s %v: %v beside %v, %v", got.name, r, got.err, got.list, got.set)
			case !errors.As(got.err, &e) || e != api.ErrFull && e != api.ErrRange && e != api.ErrClash:
				t.Fatalf("%s %v: error %v", got.name, r, got.err)
			}
		}
	}
}

// TestNothingWrittenInto holds P2: neither the rows nor what lies behind them in memory is written into, also where a call fails.
func TestNothingWrittenInto(t *testing.T) {
	for _, r := range wildRows() {
		memory := append(slices.Clone(r), 77, 78, 79)
		before := slices.Clone(memory)
		for _, got := range askAll(memory[:len(r)]) {
			if !slices.Equal(memory, before) {
				t.Fatalf("%s: %v became %v", got.name, before, memory)
			}
		}
	}
}

// TestAnswersAreFresh holds P2: who writes all over an answer writes into nothing else, and nothing comes out otherwise later.
func TestAnswersAreFresh(t *testing.T) {
	for _, c := range knownOrders() {
		memory := append(slices.Clone(c.r), 77, 78, 79)
		before := slices.Clone(memory)
		given := memory[:len(c.r)]
		first := textOf(askAll(given))
		twice := append(askAll(given), askAll(given)...)
		for i, got := range twice {
			fill(got.list, 100+i)
		}
		if !slices.Equal(memory, before) {
			t.Errorf("%s: an answer shares memory with the rows: %v became %v", c.name, before, memory)
		}
		for i, got := range twice {
			for _, x := range got.list[:cap(got.list)] {
				if x != 100+i {
					t.Errorf("%s: %s shares memory with another answer", c.name, got.name)
				}
			}
		}
		copy(memory, before)
		if again := textOf(askAll(given)); again != first {
			t.Errorf("%s: first %s, then %s", c.name, first, again)
		}
	}
}

// fill a list, and what lies behind it, with one number.
func fill(l []int, x int) {
	l = l[:cap(l)]
	for i := range l {
		l[i] = x
	}
}

// TestNothingKept holds P2: an answer stays as it is when the rows change later, and the rows as they are then are asked.
func TestNothingKept(t *testing.T) {
	r := []int{2, 4, 0}
	ranks, _ := chain.Ranks(r)
	rows, _ := chain.Rows(r)
	r[0], r[1] = 0, 0
	if !slices.Equal(ranks, []int{0, 1, 2}) || !slices.Equal(rows, []int{0, 0, 0}) {
		t.Errorf("answers changed with the rows: %v, %v", ranks, rows)
	}
	want := textOf([]answer{{"Ranks", []int{0, 0, 0}, 0, nil}, {"Widest", nil, 7, nil}, {"Rows", []int{0, 1, 2}, 0, nil}})
	if got := textOf(askAll(r)); got != want {
		t.Errorf("of the changed rows: got %s, want %s", got, want)
	}
}

// TestEmptyIsNil holds P4.
func TestEmptyIsNil(t *testing.T) {
	want := textOf(askAll(nil))
	for _, empty := range [][]int{{}, make([]int, 0, 20), []int{1, -1, 4096}[:0]} {
		if got := textOf(askAll(empty)); got != want {
			t.Errorf("got %s, of nil %s", got, want)
		}
	}
}

// TestBehindTheLengthNotRead holds P4.
func TestBehindTheLengthNotRead(t *testing.T) {
	want := textOf(askAll([]int{6, 0, 0, 2}))
	for _, junk := range [][]int{{-1, 4096, math.MinInt}, make([]int, 20), {15, 31, 1}} {
		memory := append([]int{6, 0, 0, 2}, junk...)
		if got := textOf(askAll(memory[:4])); got != want {
			t.Errorf("before %v: got %s, want %s", junk, got, want)
		}
	}
}
