package hist_test

import (
	"errors"
	"fmt"
	"math"
	"slices"
	"testing"

	"whenstead/api"
	"whenstead/hist"
	"whenstead/plain"
)

// answer of one call: what it answers beside the error.
type answer struct {
	name string
	is   bool
	row  []int
	err  error
}

// askAll calls everything that the chapter lists.
func askAll(h []api.Op) []answer {
	err1 := hist.Check(h)
	atomic, row1, err2 := hist.Atomic(h)
	weak, row2, err3 := hist.Weak(h)
	return []answer{{name: "Check", err: err1}, {name: "Atomic", is: atomic, row: row1, err: err2}, {name: "Weak", is: weak, row: row2, err: err3}}
}

// answersOf a history in which nothing is wrong, by its rows.
func answersOf(atomic, weak []int) []answer {
	return []answer{{name: "Check"}, {name: "Atomic", is: atomic != nil, row: atomic}, {name: "Weak", is: weak != nil, row: weak}}
}

// textOf answers, by which they are held against each other.
func textOf(all []answer) string {
	s := ""
	for _, x := range all {
		s += fmt.Sprintln(x.name, x.is, x.row, plain.Told(x.err))
	}
	return s
}

// wildNumbers: such as may be, and such as may not.
func wildNumbers() []int {
	return []int{0, 1, 2, 3, 4, 5, 63, 64, -1, -64, math.MinInt, math.MaxInt, 1 << 32, 999_999, 1_000_000, 1_000_001}
}

// wildOps of all kinds, and such that are none.
func wildOps() []api.Op {
	all := []api.Op{{}, write(1, 1, 1, 0, 1_000_000), read(2, 2, 0, 5, 6), read(2, 2, 1, 5, 6)}
	for _, x := range wildNumbers() {
		all = append(all, api.Op{Proc: x, To: 1}, api.Op{Object: x, To: 1}, api.Op{Write: x, To: 1}, api.Op{Value: x, To: 1}, api.Op{Proc: x, Object: x, Write: x, Value: x, From: x, To: x})
		for _, y := range wildNumbers() {
			all = append(all, api.Op{From: x, To: y}, write(3, 2, 1, x, y))
		}
	}
	return all
}

// wildHistories of all kinds, and such that are none.
func wildHistories() [][]api.Op {
	all := [][]api.Op{nil, {}, apart(10), apart(11), make([]api.Op, 5), make([]api.Op, 1000), wildOps(), wildOps()[:10]}
	for _, op := range wildOps() {
		all = append(all, history(op), history(op, op), with(apart(3), 1, op), with(apart(10), 9, op), with(apart(11), 10, op), history(write(0, 0, 1, 4, 6), op, read(0, 0, 1, 6, 8)))
	}
	return all
}

// TestAnythingGoes holds P1: no call panics, and beside an error there is nothing, nor is there a row where there is none; and P3: an error is a number that has a name, not OK.
func TestAnythingGoes(t *testing.T) {
	may := []api.Errno{api.ErrRange, api.ErrShape, api.ErrFull, api.ErrClash}
	for _, h := range wildHistories() {
		want := wantCheck(h)
		for _, got := range askAll(h) {
			if plain.Told(got.err) != want || !got.is && got.row != nil || got.is && len(got.row) != len(h) {
				t.Fatalf("%s %v: got %v, want %v", got.name, h, got, want)
			}
			if got.err != nil && (got.is || !slices.Contains(may, plain.Told(got.err))) {
				t.Fatalf("%s %v: beside %v: %v", got.name, h, got.err, got)
			}
		}
	}
}

// TestNumbers holds P3: the errors that chapter 12 tells have the numbers that the document names.
func TestNumbers(t *testing.T) {
	var e api.Errno
	for _, x := range []struct {
		h    []api.Op
		want api.Errno
	}{
		{nil, 0},
		{apart(10), 0},
		{history(read(0, 0, 1, 0, 1)), 0},
		{apart(11), 4},
		{history(read(5, 0, 0, 0, 1)), 1},
		{history(read(0, 0, 0, 1, 1)), 3},
		{history(read(0, 0, 0, 0, 2), read(0, 1, 0, 1, 3)), 6},
	} {
		for _, got := range askAll(x.h) {
			if x.want == 0 && got.err != nil || x.want != 0 && (!errors.As(got.err, &e) || e != x.want) {
				t.Errorf("%s %v: got %v, want %v", got.name, x.h, got.err, x.want)
			}
		}
	}
}

// behind a history lies something that belongs to somebody else.
func behind(h []api.Op, junk ...api.Op) (list, memory []api.Op) {
	memory = append(slices.Clone(h), junk...)
	return memory[:len(h)], memory
}

// TestNothingWrittenInto holds P2: neither a history nor what lies behind it in memory is written into, also where a call fails.
func TestNothingWrittenInto(t *testing.T) {
	all := wildHistories()
	for _, x := range allWorkedOut() {
		all = append(all, x.h)
	}
	for _, was := range all {
		h, memory := behind(was, read(77, 78, 79, 80, 81), write(4, 2, 1, 5, 6))
		askAll(h)
		if !slices.Equal(memory, append(slices.Clone(was), read(77, 78, 79, 80, 81), write(4, 2, 1, 5, 6))) {
			t.Fatalf("%v became %v", was, memory)
		}
	}
}

// TestAnswersAreFresh holds P2: who writes all over a row writes into no other one, and nothing comes out otherwise later.
func TestAnswersAreFresh(t *testing.T) {
	for _, x := range allWorkedOut() {
		want := textOf(answersOf(x.atomic, x.weak))
		var rows [][]int
		for range 3 {
			for _, got := range askAll(x.h) {
				rows = append(rows, got.row[:cap(got.row)])
			}
		}
		for i, l := range rows {
			for j := range l {
				l[j] = -5 - i
			}
		}
		for i, l := range rows {
			if !slices.Equal(l, slices.Repeat([]int{-5 - i}, len(l))) {
				t.Fatalf("%s: row %d became %v", x.name, i, l)
			}
		}
		if got := textOf(askAll(x.h)); got != want {
			t.Errorf("%s, later: got %s, want %s", x.name, got, want)
		}
	}
}

// TestNothingKept holds P2: an answer stays as it is when a history changes later, and histories as they are at each call are asked, whatever was asked before.
func TestNothingKept(t *testing.T) {
	h := history(write(0, 0, 1, 0, 9), write(1, 0, 2, 0, 9), read(2, 0, 2, 9, 10))
	first := askAll(h)
	want := textOf(answersOf(row(0, 1, 2), row(0, 1, 2)))
	changed := textOf(answersOf(row(1, 0, 2), row(0, 2, 1)))
	unread := textOf(answersOf(none, row(2, 0, 1)))
	for range 2 {
		if got := textOf(askAll(h)); got != want {
			t.Errorf("got %s, want %s", got, want)
		}
		h[2].Value = 1
		if got := textOf(askAll(h)); got != changed {
			t.Errorf("changed: got %s, want %s", got, changed)
		}
		h[2].Value = 0
		if got := textOf(askAll(h)); got != unread {
			t.Errorf("changed again: got %s, want %s", got, unread)
		}
		h[2].Value = 3
		if got, want := textOf(askAll(h)), textOf(answersOf(none, none)); got != want {
			t.Errorf("changed to what nobody wrote: got %s, want %s", got, want)
		}
		askAll(apart(11))
		askAll(with(h, 2, read(0, 0, 1, 5, 6)))
		h[2].Value = 2
	}
	h[0], h[1], h[2] = h[2], h[0], h[1]
	if got := textOf(first); got != want {
		t.Errorf("the first answers became %s, were %s", got, want)
	}
}

// TestEmptyIsNil holds P4.
func TestEmptyIsNil(t *testing.T) {
	want := textOf(answersOf(row(), row()))
	for _, h := range [][]api.Op{nil, {}, make([]api.Op, 0, 20), apart(3)[:0], apart(11)[:0]} {
		if got := textOf(askAll(h)); got != want {
			t.Errorf("got %s, want %s", got, want)
		}
	}
}

// TestBehindTheLengthNotRead holds P4.
func TestBehindTheLengthNotRead(t *testing.T) {
	for _, x := range allWorkedOut() {
		want := textOf(answersOf(x.atomic, x.weak))
		for _, junk := range [][]api.Op{{{}}, apart(1), apart(11), {read(0, 0, 1, 0, 1_000_000)}, {read(-1, 0, 0, 0, 0), write(9, 9, 9, 9, 9)}} {
			h, _ := behind(x.h, junk...)
			if got := textOf(askAll(h)); got != want {
				t.Errorf("%s, ahead of %v: got %s, want %s", x.name, junk, got, want)
			}
		}
	}
	h := history(write(0, 0, 1, 0, 1), read(1, 0, 1, 2, 3))
	if is, got, err := hist.Weak(slices.Clone(h)[1:]); is || got != nil || err != nil {
		t.Errorf("what is written only ahead of the list's beginning: got %v, %v, %v", is, got, err)
	}
}
