package sched_test

import (
	"errors"
	"fmt"
	"math"
	"slices"
	"testing"

	"whenstead/api"
	"whenstead/plain"
	"whenstead/sched"
)

// answer of one call: what it answers beside the error.
type answer struct {
	name string
	is   bool
	list []int
	err  error
}

// askAll calls everything that the chapter lists.
func askAll(s []api.Act, l []int) []answer {
	err1 := sched.Check(s)
	edges, err2 := sched.Edges(s)
	is, least, err3 := sched.Serial(s)
	reads, err4 := sched.Reads(s)
	places, err5 := sched.Ordered(s, l)
	return []answer{{"Check", false, nil, err1}, {"Edges", false, edges, err2}, {"Serial", is, least, err3}, {"Reads", false, reads, err4}, {"Ordered", false, places, err5}}
}

// answersOf a schedule that was worked out, by a row.
func answersOf(x worked, l []int) []answer {
	return []answer{{name: "Check"}, {name: "Edges", list: x.edges}, {name: "Serial", is: x.least != nil, list: x.least}, {name: "Reads", list: x.reads}, {name: "Ordered", list: wantPlaces(acts(x.s), l)}}
}

// textOf answers, by which they are held against each other.
func textOf(all []answer) string {
	s := ""
	for _, x := range all {
		s += fmt.Sprintln(x.name, x.is, x.list, plain.Told(x.err))
	}
	return s
}

// wildNumbers: such as may be, and such as may not.
func wildNumbers() []int {
	return []int{0, 1, 2, 3, 4, 5, 6, 24, 25, 63, 64, -1, -64, math.MinInt, math.MaxInt, 1 << 32, 1 << 62}
}

// wildSchedules of all kinds, and such that are none.
func wildSchedules() [][]api.Act {
	all := [][]api.Act{nil, {}, many(24), many(25), make([]api.Act, 24), make([]api.Act, 1000), acts("0w0 1w0 0w0")}
	for _, x := range wildNumbers() {
		for _, a := range []api.Act{{Tx: x}, {Item: x}, {Write: x}, {Tx: x, Item: x, Write: x}, {Tx: 4, Item: 3, Write: x}, {Tx: x, Item: 3, Write: 1}} {
			all = append(all, []api.Act{a}, []api.Act{a, a}, with(many(3), 1, a), with(many(24), 23, a), with(many(25), 24, a), []api.Act{write(4, 3), a, write(4, 3)})
		}
	}
	return all
}

// wildRows of all kinds, and such that are none.
func wildRows() [][]int {
	all := [][]int{nil, {}, row(0, 1, 2, 3, 4), row(4, 3, 2, 1, 0), row(0), row(0, 1, 2, 3), row(0, 1, 2, 3, 4, 5), make([]int, 1000), wildNumbers()}
	for _, x := range wildNumbers() {
		all = append(all, row(x), row(x, x, x, x, x), row(x, 1, 2, 3, 4), row(0, 1, 2, 3, x), row(0, 1, x, 1, x), row(0, 1, 2, 3, 4, x))
	}
	return all
}

// TestAnythingGoes holds P1: no call panics, and beside an error there is nothing; and P3: an error is a number that has a name, not OK.
func TestAnythingGoes(t *testing.T) {
	may := []api.Errno{api.ErrRange, api.ErrShape, api.ErrFull, api.ErrClash}
	for _, s := range wildSchedules() {
		for _, l := range wildRows() {
			for _, got := range askAll(s, l) {
				want := wantCheck(s)
				if got.name == "Ordered" {
					want = wantOrdered(s, l)
				}
				if plain.Told(got.err) != want {
					t.Fatalf("%s %v, %v: got %v, want %v", got.name, s, l, got, want)
				}
				if got.err != nil && (got.is || got.list != nil || !slices.Contains(may, plain.Told(got.err))) {
					t.Fatalf("%s %v, %v: beside %v: %v", got.name, s, l, got.err, got)
				}
				if got.name == "Serial" && !got.is && got.list != nil {
					t.Fatalf("Serial %v: got %v", s, got)
				}
			}
		}
	}
}

// TestNumbers holds P3: the errors that chapter 13 tells have the numbers that the document names.
func TestNumbers(t *testing.T) {
	var e api.Errno
	good := row(0, 1, 2, 3, 4)
	for _, x := range []struct {
		s    []api.Act
		row  []int
		want api.Errno
	}{
		{nil, good, 0},
		{many(24), good, 0},
		{many(25), good, 4},
		{acts("5r0"), good, 1},
		{acts("0r4"), good, 1},
		{nil, row(0, 1, 2, 3), 3},
		{nil, row(0, 1, 2, 3, 5), 1},
		{nil, row(0, 1, 2, 3, 0), 6},
	} {
		all := askAll(x.s, x.row)
		got := all[len(all)-1]
		if x.want == 0 && got.err != nil || x.want != 0 && (!errors.As(got.err, &e) || e != x.want) {
			t.Errorf("Ordered %v, %v: got %v, want %v", x.s, x.row, got.err, x.want)
		}
		for _, one := range all[:len(all)-1] {
			if plain.Told(one.err) != wantCheck(x.s) {
				t.Errorf("%s %v: got %v", one.name, x.s, one.err)
			}
		}
	}
}

// behind a list lies something that belongs to somebody else.
func behind[T any](list []T, junk ...T) (short, memory []T) {
	memory = append(slices.Clone(list), junk...)
	return memory[:len(list)], memory
}

// allSchedules, wild ones and such that were worked out.
func allSchedules() [][]api.Act {
	all := wildSchedules()
	for _, x := range allWorkedOut() {
		all = append(all, acts(x.s))
	}
	return all
}

// TestNothingWrittenInto holds P2: neither a schedule nor a row, nor what lies behind them in memory, is written into, also where a call fails.
func TestNothingWrittenInto(t *testing.T) {
	junk := []api.Act{{Tx: 77, Item: 78, Write: 79}, write(4, 2)}
	for _, was := range allSchedules() {
		for _, rowWas := range wildRows() {
			s, memory := behind(was, junk...)
			l, rowMemory := behind(rowWas, 81, 82)
			askAll(s, l)
			if !slices.Equal(memory, slices.Concat(was, junk)) {
				t.Fatalf("%v became %v", was, memory)
			}
			if !slices.Equal(rowMemory, append(slices.Clone(rowWas), 81, 82)) {
				t.Fatalf("%v became %v", rowWas, rowMemory)
			}
		}
	}
}

// TestAnswersAreFresh holds P2: who writes all over a list writes into no other one, and nothing comes out otherwise later.
func TestAnswersAreFresh(t *testing.T) {
	l := row(3, 1, 4, 0, 2)
	for _, x := range allWorkedOut() {
		s := acts(x.s)
		want := textOf(answersOf(x, l))
		lists := [][]int{l[:cap(l)]}
		for range 3 {
			for _, got := range askAll(s, l) {
				lists = append(lists, got.list[:cap(got.list)])
			}
		}
		for i, one := range lists[1:] {
			for j := range one {
				one[j] = -5 - i
			}
		}
		if !slices.Equal(l, row(3, 1, 4, 0, 2)) {
			t.Fatalf("%s: the row became %v", x.name, l)
		}
		for i, one := range lists[1:] {
			if !slices.Equal(one, slices.Repeat([]int{-5 - i}, len(one))) {
				t.Fatalf("%s: list %d became %v", x.name, i, one)
			}
		}
		if got := textOf(askAll(s, l)); got != want {
			t.Errorf("%s, later: got %s, want %s", x.name, got, want)
		}
	}
}

// TestNothingKept holds P2: an answer stays as it is when a schedule or a row changes later, and they are asked as they are at each call, whatever was asked before.
func TestNothingKept(t *testing.T) {
	s, l := acts("1w0 0r0 2r0"), row(0, 1, 2, 3, 4)
	first := askAll(s, l)
	want := textOf(answersOf(worked{"", "1w0 0r0 2r0", row(0, 5, 0, 0, 0), row(1, 0, 2, 3, 4), row(-1, 0, 0)}, row(0, 1, 2, 3, 4)))
	changed := textOf(answersOf(worked{"", "1w0 0r0 1w0", row(2, 1, 0, 0, 0), none, row(-1, 0, -1)}, row(4, 3, 2, 1, 0)))
	for range 2 {
		if got := textOf(askAll(s, l)); got != want {
			t.Errorf("got %s, want %s", got, want)
		}
		s[2] = write(1, 0)
		slices.Reverse(l)
		if got := textOf(askAll(s, l)); got != changed {
			t.Errorf("changed: got %s, want %s", got, changed)
		}
		askAll(many(25), l)
		askAll(with(s, 2, read(5, 0)), l)
		askAll(s, l[1:])
		s[2] = read(2, 0)
		slices.Reverse(l)
	}
	s[0], l[0] = read(4, 3), 7
	if got := textOf(first); got != want {
		t.Errorf("the first answers became %s, were %s", got, want)
	}
}

// TestEmptyIsNil holds P4: of a schedule; a row that is empty has not as many as it must.
func TestEmptyIsNil(t *testing.T) {
	l := row(0, 1, 2, 3, 4)
	want := textOf(answersOf(workedFew()[0], l))
	for _, s := range [][]api.Act{nil, {}, make([]api.Act, 0, 20), many(3)[:0], many(25)[:0]} {
		if got := textOf(askAll(s, l)); got != want {
			t.Errorf("got %s, want %s", got, want)
		}
		for _, empty := range [][]int{nil, {}, l[:0]} {
			tellsOrdered(t, "an empty row", s, empty, api.ErrShape)
		}
	}
}

// TestBehindTheLengthNotRead holds P4.
func TestBehindTheLengthNotRead(t *testing.T) {
	for _, x := range allWorkedOut() {
		want := textOf(answersOf(x, row(3, 1, 4, 0, 2)))
		for _, junk := range [][]api.Act{{{}}, many(1), many(25), acts("0w0 1w0 2w0 3w0 4w0"), {{Tx: -1, Item: -1, Write: -1}}} {
			s, _ := behind(acts(x.s), junk...)
			l, _ := behind(row(3, 1, 4, 0, 2), 0, -1)
			if got := textOf(askAll(s, l)); got != want {
				t.Errorf("%s, ahead of %v: got %s, want %s", x.name, junk, got, want)
			}
		}
	}
	l := row(0, 1, 2, 3, 4, 0)
	tellsOrdered(t, "short, with the rest behind it", many(5), l[:4], api.ErrShape)
	holdOrdered(t, many(5), l[1:])
	if got, err := sched.Reads(acts("0w0 1r0")[1:]); err != nil || !slices.Equal(got, row(-1)) {
		t.Errorf("what is written only ahead of the list's beginning: got %v, %v", got, err)
	}
}
