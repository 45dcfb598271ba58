package order_test

import (
	"errors"
	"fmt"
	"math"
	"slices"
	"testing"

	"whenstead/api"
	"whenstead/order"
	"whenstead/plain"
)

// answer of one call: is and list are what it answers beside the error.
type answer struct {
	name string
	is   bool
	list []int
	err  error
}

// askAll calls everything that the chapter lists.
func askAll(r []int, a, b int) []answer {
	behind, err1 := order.Behind(r)
	is, err2 := order.Less(r, a, b)
	ahead, err3 := order.Turned(r)
	with, err4 := order.With(r, a, b)
	return []answer{
		{"Check", false, nil, order.Check(r)},
		{"Behind", false, behind, err1},
		{"Less", is, nil, err2},
		{"Turned", false, ahead, err3},
		{"With", false, with, err4},
	}
}

// wildRows: orders, and rows that are none, of all kinds.
func wildRows() [][]int {
	wild := []int{0, 1, 2, 3, 4, 8, 4094, 4095, 4096, -1, -2, math.MinInt, math.MaxInt, 1 << 62, 1 << 32}
	out := [][]int{nil, {}, row(2), row(5), row(12), row(13), ring(2), ring(12), ring(13), make([]int, 64), make([]int, 65), make([]int, 1000)}
	for _, x := range wild {
		out = append(out, []int{x})
		for _, y := range wild {
			out = append(out, []int{x, y}, []int{0, x, 0, y})
			for _, n := range []int{12, 13, 64} {
				r := make([]int, n)
				r[0], r[n-1] = x, y
				out = append(out, r)
			}
		}
	}
	return out
}

// wildThings: numbers of things, and such that are of none.
func wildThings() []int {
	return []int{0, 1, 3, 11, 12, 13, 63, 64, 65, -1, -64, math.MinInt, math.MaxInt, 1 << 32}
}

// TestAnythingGoes holds P1: no call panics, and beside an error there is nothing; and P3: an error is a number that has a name, not OK.
func TestAnythingGoes(t *testing.T) {
	for _, r := range wildRows() {
		for _, a := range wildThings() {
			for _, b := range wildThings() {
				for _, got := range askAll(r, a, b) {
					if got.err == nil {
						continue
					}
					if got.is || len(got.list) != 0 {
						t.Fatalf("%s %v %d %d: %v beside %v, %v", got.name, r, a, b, got.err, got.is, got.list)
					}
					if e := plain.Told(got.err); e != api.ErrFull && e != api.ErrRange && e != api.ErrClash {
						t.Fatalf("%s %v %d %d: error %v", got.name, r, a, b, got.err)
					}
				}
			}
		}
	}
}

// TestErrorNumbers holds P3.
func TestErrorNumbers(t *testing.T) {
	for i, e := range []api.Errno{api.OK, api.ErrRange, api.ErrSyntax, api.ErrShape, api.ErrFull, api.ErrNone, api.ErrClash, api.ErrState} {
		if int(e) != i {
			t.Errorf("%v is %d, want %d", e, int(e), i)
		}
	}
	if api.MaxThings != 12 {
		t.Errorf("MaxThings is %d", api.MaxThings)
	}
	for _, c := range []struct {
		r    []int
		want api.Errno
	}{{make([]int, 13), 4}, {[]int{-1}, 1}, {[]int{1}, 6}} {
		for _, got := range askAll(c.r, 0, 0) {
			var e api.Errno
			if !errors.As(got.err, &e) || e != c.want {
				t.Errorf("%s of %d rows: got %v, want %v", got.name, len(c.r), got.err, c.want)
			}
		}
	}
}

// TestNothingWrittenInto holds P2: neither the rows nor what lies behind them in memory is written into, also where a call fails.
func TestNothingWrittenInto(t *testing.T) {
	for _, r := range wildRows() {
		memory := append(slices.Clone(r), 77, 78, 79)
		before := slices.Clone(memory)
		for _, a := range []int{-1, 0, 1, 2} {
			for _, b := range []int{-1, 0, 1, 2} {
				askAll(memory[:len(r)], a, b)
				if !slices.Equal(memory, before) {
					t.Fatalf("%v became %v", before, memory)
				}
			}
		}
	}
}

// TestAnswersAreFresh holds P2: who writes all over an answer writes into nothing else, and nothing comes out otherwise later.
func TestAnswersAreFresh(t *testing.T) {
	for _, r := range [][]int{{}, {0}, {0, 0, 0}, {2, 4, 0}, {6, 4, 0}, row(12)} {
		memory := append(slices.Clone(r), 77, 78, 79)
		before := slices.Clone(memory)
		given := memory[:len(r)]
		first := textOf(askAll(given, 0, len(r)-1))
		twice := append(askAll(given, 0, len(r)-1), askAll(given, 0, len(r)-1)...)
		for i, got := range twice {
			fill(got.list, 100+i)
		}
		if !slices.Equal(memory, before) {
			t.Errorf("an answer shares memory with the rows: %v became %v", before, memory)
		}
		for i, got := range twice {
			for _, x := range got.list {
				if x != 100+i {
					t.Errorf("%s of %v shares memory with another answer", got.name, r)
				}
			}
		}
		copy(memory, before)
		if again := textOf(askAll(given, 0, len(r)-1)); again != first {
			t.Errorf("%v: first %s, then %s", r, first, again)
		}
	}
}

// fill a list, and what lies behind it, with one number.
func fill(l []int, x int) {
	l = l[:cap(l)]
	for i := range l {
		l[i] = x
	}
}

// textOf answers, by which they are held against each other; an empty list is as nil.
func textOf(all []answer) string {
	s := ""
	for _, x := range all {
		s += fmt.Sprintln(x.name, x.is, x.list, plain.Told(x.err))
	}
	return s
}

// TestNothingKept holds P2: an answer stays as it is when the rows change later, and the rows as they are then are asked.
func TestNothingKept(t *testing.T) {
	r := []int{2, 4, 0}
	got, _ := order.Behind(r)
	with, _ := order.With(r, 0, 2)
	ahead, _ := order.Turned(r)
	r[0], r[1] = 0, 0
	if !slices.Equal(got, []int{6, 4, 0}) || !slices.Equal(with, []int{6, 4, 0}) || !slices.Equal(ahead, []int{0, 1, 3}) {
		t.Errorf("answers changed with the rows: %v, %v, %v", got, with, ahead)
	}
	if is, err := order.Less(r, 0, 1); is || err != nil {
		t.Errorf("Less of the changed rows: got %v, %v", is, err)
	}
}

// TestEmptyIsNil holds P4.
func TestEmptyIsNil(t *testing.T) {
	want := textOf(askAll(nil, 0, 0))
	for _, empty := range [][]int{{}, make([]int, 0, 20), []int{1, -1, 4096}[:0]} {
		if got := textOf(askAll(empty, 0, 0)); got != want {
			t.Errorf("got %s, of nil %s", got, want)
		}
	}
}

// TestBehindTheLengthNotRead holds P4.
func TestBehindTheLengthNotRead(t *testing.T) {
	want := textOf(askAll([]int{2, 4, 0}, 0, 2))
	for _, junk := range [][]int{{-1, 4096, math.MinInt}, make([]int, 20), {15, 31, 1}} {
		memory := append([]int{2, 4, 0}, junk...)
		if got := textOf(askAll(memory[:3], 0, 2)); got != want {
			t.Errorf("before %v: got %s, want %s", junk, got, want)
		}
	}
}
