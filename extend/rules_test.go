package extend_test

import (
	"errors"
	"fmt"
	"math"
	"slices"
	"testing"

	"whenstead/api"
	"whenstead/extend"
	"whenstead/plain"
)

// answer of one call: list, number and is are what it answers beside the error.
type answer struct {
	name   string
	list   []int
	number int
	is     bool
	err    error
}

// askAll calls everything that the chapter lists.
func askAll(r, l []int) []answer {
	first, err1 := extend.First(r)
	count, err2 := extend.Count(r)
	is, err3 := extend.Is(r, l)
	return []answer{
		{"First", first, 0, false, err1},
		{"Count", nil, count, false, err2},
		{"Is", nil, 0, is, err3},
	}
}

// textOf answers, by which they are held against each other; an empty list is as nil.
func textOf(all []answer) string {
	s := ""
	for _, x := range all {
		s += fmt.Sprintln(x.name, x.list, x.number, x.is, plain.Told(x.err))
	}
	return s
}

// wildRows: orders, and rows that are none, of all kinds.
func wildRows() [][]int {
	wild := []int{0, 1, 2, 3, 4, 8, 4094, 4095, 4096, -1, -2, math.MinInt, math.MaxInt, 1 << 62, 1 << 32}
	out := [][]int{nil, {}, up(2), up(5), up(12), up(13), down(12), ring(2), ring(12), ring(13), make([]int, 64), make([]int, 65), make([]int, 1000)}
	for _, x := range wild {
		out = append(out, []int{x})
		for _, y := range wild {
			out = append(out, []int{x, y}, []int{0, x, 0, y})
			for _, n := range []int{12, 13, 64} {
				r := make([]int, n)
				r[0], r[n-1] = x, y
				out = append(out, r)
			}
		}
	}
	return out
}

// wildLists of n numbers, and some that are longer or shorter.
func wildLists(n int) [][]int {
	out := [][]int{nil, counted(0, n), falling(n), counted(0, n+1), counted(1, n), counted(-1, n-1), make([]int, n)}
	if n == 0 {
		return out
	}
	for _, x := range []int{-1, n, 63, 64, math.MinInt, math.MaxInt} {
		for _, at := range []int{0, n - 1} {
			l := counted(0, n)
			l[at] = x
			out = append(out, l)
		}
	}
	return out
}

// mayTell: the errors that the chapter names for a call.
func mayTell(name string) []api.Errno {
	if name == "Is" {
		return []api.Errno{api.ErrFull, api.ErrRange, api.ErrClash, api.ErrShape}
	}
	return []api.Errno{api.ErrFull, api.ErrRange, api.ErrClash}
}

// TestAnythingGoes holds P1: no call panics, and beside an error there is nothing; and P3: an error is a number that has a name, not OK.
func TestAnythingGoes(t *testing.T) {
	for _, r := range wildRows() {
		for _, l := range wildLists(len(r)) {
			for _, got := range askAll(r, l) {
				var e api.Errno
				switch {
				case got.err == nil:
					if got.name == "First" && len(got.list) != len(r) || got.name == "Count" && got.number < 1 {
						t.Fatalf("%s %v: got %v, %v", got.name, r, got.list, got.number)
					}
				case len(got.list) != 0 || got.number != 0 || got.is:
					t.Fatalf("%s %v %v: %v beside %v, %v, %v", got.name, r, l, got.err, got.list, got.number, got.is)
				case !errors.As(got.err, &e) || !slices.Contains(mayTell(got.name), e):
					t.Fatalf("%s %v %v: error %v", got.name, r, l, got.err)
				}
			}
		}
	}
}

// TestNothingWrittenInto holds P2: neither the rows nor a list, nor what lies behind them in memory, is written into, also where a call fails.
func TestNothingWrittenInto(t *testing.T) {
	for _, r := range wildRows() {
		for _, l := range wildLists(len(r)) {
			rows, list := append(slices.Clone(r), 77, 78, 79), append(slices.Clone(l), 80, 81, 82)
			rowsBefore, listBefore := slices.Clone(rows), slices.Clone(list)
			askAll(rows[:len(r)], list[:len(l)])
			if !slices.Equal(rows, rowsBefore) || !slices.Equal(list, listBefore) {
				t.Fatalf("%v, %v became %v, %v", rowsBefore, listBefore, rows, list)
			}
		}
	}
}

// TestAnswersAreFresh holds P2: who writes all over an answer writes into nothing else, and nothing comes out otherwise later.
func TestAnswersAreFresh(t *testing.T) {
	for _, c := range knownOrders() {
		rows, list := append(slices.Clone(c.r), 77, 78, 79), append(slices.Clone(c.first), 80, 81, 82)
		rowsBefore, listBefore := slices.Clone(rows), slices.Clone(list)
		r, l := rows[:len(c.r)], list[:len(c.first)]
		first := textOf(askAll(r, l))
		twice := append(askAll(r, l), askAll(r, l)...)
		for i, got := range twice {
			fill(got.list, 100+i)
		}
		if !slices.Equal(rows, rowsBefore) || !slices.Equal(list, listBefore) {
			t.Errorf("%s: an answer shares memory with what was handed in: %v, %v", c.name, rows, list)
		}
		for i, got := range twice {
			for _, x := range got.list[:cap(got.list)] {
				if x != 100+i {
					t.Errorf("%s: %s shares memory with another answer", c.name, got.name)
				}
			}
		}
		copy(rows, rowsBefore)
		copy(list, listBefore)
		if again := textOf(askAll(r, l)); again != first {
			t.Errorf("%s: first %s, then %s", c.name, first, again)
		}
	}
}

// fill a list, and what lies behind it, with one number.
func fill(l []int, x int) {
	l = l[:cap(l)]
	for i := range l {
		l[i] = x
	}
}

// TestNothingKept holds P2: an answer stays as it is when the rows change later, and what is handed in then is asked as it is then.
func TestNothingKept(t *testing.T) {
	r, l := []int{0, 1, 2}, []int{2, 1, 0}
	before := textOf([]answer{{"First", l, 0, false, nil}, {"Count", nil, 1, false, nil}, {"Is", nil, 0, true, nil}})
	if got := textOf(askAll(r, l)); got != before {
		t.Errorf("got %s, want %s", got, before)
	}
	first, _ := extend.First(r)
	r[1], r[2] = 0, 0
	l[0] = 0
	if !slices.Equal(first, []int{2, 1, 0}) {
		t.Errorf("the answer changed with the rows: %v", first)
	}
	want := textOf([]answer{{"First", []int{0, 1, 2}, 0, false, nil}, {"Count", nil, 6, false, nil}, {"Is", nil, 0, false, nil}})
	if got := textOf(askAll(r, l)); got != want {
		t.Errorf("of the changed rows: got %s, want %s", got, want)
	}
}

// TestEmptyIsNil holds P4.
func TestEmptyIsNil(t *testing.T) {
	empties := [][]int{nil, {}, make([]int, 0, 20), []int{1, -1, 4096}[:0]}
	want, short := textOf(askAll(nil, nil)), textOf(askAll([]int{0}, nil))
	for _, l := range empties {
		for _, r := range empties {
			if got := textOf(askAll(r, l)); got != want {
				t.Errorf("got %s, of nil %s", got, want)
			}
		}
		if got := textOf(askAll([]int{0}, l)); got != short {
			t.Errorf("got %s, of nil %s", got, short)
		}
	}
}

// TestBehindTheLengthNotRead holds P4.
func TestBehindTheLengthNotRead(t *testing.T) {
	for _, list := range [][]int{{0, 3, 1, 2}, {0, 1, 2, 3}, {0, 3, 1}} {
		want := textOf(askAll([]int{6, 0, 0, 2}, list))
		for _, junk := range [][]int{{-1, 4096, math.MinInt}, make([]int, 20), {2, 15, 31, 1}} {
			rows, longer := append([]int{6, 0, 0, 2}, junk...), append(slices.Clone(list), junk...)
			if got := textOf(askAll(rows[:4], longer[:len(list)])); got != want {
				t.Errorf("before %v: got %s, want %s", junk, got, want)
			}
		}
	}
}
