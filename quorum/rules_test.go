package quorum_test

import (
	"errors"
	"fmt"
	"math"
	"slices"
	"testing"

	"whenstead/api"
	"whenstead/plain"
	"whenstead/quorum"
)

// answer of one call: what it answers beside the error.
type answer struct {
	name string
	is   bool
	a, b int
	list []int
	err  error
}

// askAll calls everything that the chapter lists.
func askAll(n int, all []int, some int, weights []int, need int) []answer {
	err1 := quorum.Check(n, all)
	has, err2 := quorum.Has(n, all, some)
	least, err3 := quorum.Least(n, all)
	full, unset, err4 := quorum.Full(n, all)
	votes, err5 := quorum.Votes(weights, need)
	liars, fail, err6 := quorum.Masks(n, all)
	return []answer{{name: "Check", err: err1}, {name: "Has", is: has, err: err2}, {name: "Least", list: least, err: err3},
		{name: "Full", is: full, a: unset, err: err4}, {name: "Votes", list: votes, err: err5}, {name: "Masks", a: liars, b: fail, err: err6}}
}

// answersOf sets that were worked out, with what is asked of Has, and with votes.
func answersOf(x worked, some int, v voted) []answer {
	return []answer{{name: "Check"}, {name: "Has", is: anyWithin(sets(x.sets), some)}, {name: "Least", list: sets(x.least)},
		{name: "Full", is: x.unset == "", a: nodes(x.unset)}, {name: "Votes", list: sets(v.want)}, {name: "Masks", a: x.liars, b: x.fail}}
}

// textOf answers, by which they are held against each other.
func textOf(all []answer) string {
	s := ""
	for _, x := range all {
		s += fmt.Sprintln(x.name, x.is, x.a, x.b, x.list, plain.Told(x.err))
	}
	return s
}

// wildNumbers: such as may be, and such as may not.
func wildNumbers() []int {
	return []int{0, 1, 2, 3, 8, 9, 20, 21, 63, 64, 128, 255, 256, -1, -64, math.MinInt, math.MaxInt, 1 << 32, 1 << 62}
}

// wildLists of all kinds, and such that are none.
func wildLists() [][]int {
	all := [][]int{nil, {}, make([]int, 20), make([]int, 1000), someSets(8, 20), someSets(8, 21), slices.Repeat(list(20), 8), slices.Repeat(list(1), 8), slices.Repeat(list(1), 9), wildNumbers()}
	for _, x := range wildNumbers() {
		all = append(all, list(x), list(x, x), list(1, x), list(x, 3), slices.Repeat(list(x), 8), slices.Repeat(list(x), 20), with(someSets(8, 20), 19, x), with(someSets(8, 21), 20, x))
	}
	return all
}

// TestAnythingGoes holds P1: no call panics, and beside an error there is nothing; and P3: an error is a number that has a name, not OK.
func TestAnythingGoes(t *testing.T) {
	may := []api.Errno{api.ErrRange, api.ErrShape, api.ErrFull, api.ErrNone, api.ErrClash}
	for _, n := range wildNumbers() {
		for _, all := range wildLists() {
			for _, x := range wildNumbers() {
				for _, got := range askAll(n, all, x, all, x) {
					told, want := plain.Told(got.err), wantCheck(n, all)
					switch {
					case got.name == "Votes":
						want = wantVoted(all, x)
					case got.name == "Has" && want == api.OK && (x < 0 || x > power(n)-1):
						want = api.ErrRange
					}
					if told != want {
						t.Fatalf("%s %d, %v, %d: got %v, want %v", got.name, n, all, x, got, want)
					}
					if got.err != nil && (got.is || got.a != 0 || got.b != 0 || got.list != nil || !slices.Contains(may, told)) {
						t.Fatalf("%s %d, %v, %d: beside %v: %v", got.name, n, all, x, got.err, got)
					}
				}
			}
		}
	}
}

// TestNumbers holds P3: the errors that chapter 17 tells have the numbers that the document names.
func TestNumbers(t *testing.T) {
	var e api.Errno
	for _, x := range []struct {
		n    int
		all  []int
		some int
		want api.Errno
	}{
		{3, list(3, 5, 6), 7, 0},
		{3, list(3, 5, 6), 8, 1},
		{0, list(3, 5, 6), 7, 1},
		{3, nil, 7, 5},
		{3, slices.Repeat(list(3), 21), 7, 4},
		{3, list(3, 0), 7, 3},
		{3, list(3, 4), 7, 6},
		{3, list(3, 8), 7, 1},
	} {
		_, err := quorum.Has(x.n, x.all, x.some)
		if x.want == 0 && err != nil || x.want != 0 && (!errors.As(err, &e) || e != x.want) {
			t.Errorf("Has %v: got %v", x, err)
		}
	}
	for _, x := range []struct {
		weights []int
		need    int
		want    api.Errno
	}{
		{list(1, 2), 2, 0},
		{list(1, 2), 1, 6},
		{list(1, 2), 4, 1},
		{list(1, 21), 2, 1},
		{nil, 2, 5},
		{make([]int, 9), 2, 4},
	} {
		_, err := quorum.Votes(x.weights, x.need)
		if x.want == 0 && err != nil || x.want != 0 && (!errors.As(err, &e) || e != x.want) {
			t.Errorf("Votes %v: got %v", x, err)
		}
	}
}

// behind a list lies something that belongs to somebody else.
func behind(all []int, junk ...int) (short, memory []int) {
	memory = append(slices.Clone(all), junk...)
	return memory[:len(all)], memory
}

// allLists, wild ones and such that were worked out.
func allLists() [][]int {
	all := wildLists()
	for _, x := range allWorkedOut() {
		all = append(all, sets(x.sets))
	}
	for _, x := range allVoted() {
		all = append(all, x.weights)
	}
	return all
}

// TestNothingWrittenInto holds P2: neither sets nor weights, nor what lies behind them in memory, are written into, also where a call fails.
func TestNothingWrittenInto(t *testing.T) {
	for _, was := range allLists() {
		for _, n := range []int{1, 2, 5, 7, 8, 9} {
			for _, x := range []int{0, 1, 6, 21, 81, 160, 256} {
				l, memory := behind(was, 77, -1, 3)
				askAll(n, l, x, l, x)
				if !slices.Equal(memory, append(slices.Clone(was), 77, -1, 3)) {
					t.Fatalf("%v became %v", was, memory)
				}
			}
		}
	}
}

// TestAnswersAreFresh holds P2: who writes all over a list writes into no other one, and nothing comes out otherwise later.
func TestAnswersAreFresh(t *testing.T) {
	votes := allVoted()
	for k, x := range allWorkedOut() {
		v := votes[k%len(votes)]
		all, weights := sets(x.sets), slices.Clone(v.weights)
		want := textOf(answersOf(x, 1, v))
		var lists [][]int
		for range 3 {
			for _, got := range askAll(x.n, all, 1, weights, v.need) {
				lists = append(lists, got.list[:cap(got.list)])
			}
		}
		for i, one := range lists {
			for j := range one {
				one[j] = -5 - i
			}
		}
		for i, one := range lists {
			if !slices.Equal(one, slices.Repeat(list(-5-i), len(one))) {
				t.Fatalf("%s: list %d became %v", x.name, i, one)
			}
		}
		if !slices.Equal(all, sets(x.sets)) || !slices.Equal(weights, v.weights) {
			t.Fatalf("%s: handed in were %v and %v", x.name, all, weights)
		}
		if got := textOf(askAll(x.n, all, 1, weights, v.need)); got != want {
			t.Errorf("%s, later: got %s, want %s", x.name, got, want)
		}
	}
}

// TestNothingKept holds P2: an answer stays as it is when sets or weights change later, and they are asked as they are at each call, whatever was asked before.
func TestNothingKept(t *testing.T) {
	all, weights := sets("01 02 12"), list(2, 1, 1, 1)
	two := worked{"", 3, "01 02 12", "01 02 12", "", 0, 1}
	one := worked{"", 3, "01 02 012", "01 02", "0", 0, 0}
	first := askAll(3, all, 6, weights, 3)
	want := textOf(answersOf(two, 6, voted{"", weights, 3, "01 02 03 123"}))
	changed := textOf(answersOf(one, 6, voted{"", nil, 3, "012 03 13 23"}))
	for range 2 {
		if got := textOf(askAll(3, all, 6, weights, 3)); got != want {
			t.Errorf("got %s, want %s", got, want)
		}
		all[2] = 7
		slices.Reverse(weights)
		if got := textOf(askAll(3, all, 6, weights, 3)); got != changed {
			t.Errorf("changed: got %s, want %s", got, changed)
		}
		askAll(2, all, 6, weights, 2)
		askAll(3, nil, 6, nil, 3)
		all[2] = 6
		slices.Reverse(weights)
	}
	all[0], weights[0] = 5, 7
	if got := textOf(first); got != want {
		t.Errorf("the first answers became %s, were %s", got, want)
	}
}

// TestEmptyIsNil holds P4.
func TestEmptyIsNil(t *testing.T) {
	for _, empty := range [][]int{nil, {}, make([]int, 0, 9), list(3, 5, 6)[:0], list(3, 5, 6)[3:]} {
		tells(t, "empty", 3, empty, api.ErrNone)
		tellsVotes(t, "empty", empty, 2, api.ErrNone)
	}
}

// TestBehindTheLengthNotRead holds P4.
func TestBehindTheLengthNotRead(t *testing.T) {
	votes := allVoted()
	for k, x := range allWorkedOut() {
		v := votes[k%len(votes)]
		some := power(x.n) - 1
		want := textOf(answersOf(x, some, v))
		for _, junk := range [][]int{{0}, {1, 2}, {-1}, {3, 5, 6}, make([]int, 20), {math.MaxInt}} {
			all, _ := behind(sets(x.sets), junk...)
			weights, _ := behind(v.weights, junk...)
			if got := textOf(askAll(x.n, all, some, weights, v.need)); got != want {
				t.Errorf("%s, ahead of %v: got %s, want %s", x.name, junk, got, want)
			}
		}
	}
	tellsHas(t, "ahead of the beginning lies one", 3, list(3, 4)[1:], 8, api.ErrRange)
	if is, err := quorum.Has(3, list(3, 4)[1:], 4); err != nil || !is {
		t.Errorf("got %v, %v", is, err)
	}
}
