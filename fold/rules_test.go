package fold_test

import (
	"errors"
	"fmt"
	"math"
	"slices"
	"testing"

	"whenstead/api"
	"whenstead/fold"
	"whenstead/plain"
)

// answer of one call: what it answers beside the error.
type answer struct {
	name string
	list []int
	is   bool
	err  error
}

// askAll calls everything that the chapter lists: Check of letters, Same of two words, and all else of the second one.
func askAll(free, v, w []int) []answer {
	err1 := fold.Check(free)
	steps, err2 := fold.Steps(free, w)
	least, err3 := fold.Least(free, w)
	is, err4 := fold.Same(free, v, w)
	ahead, err5 := fold.Ahead(free, w)
	return []answer{{name: "Check", err: err1}, {name: "Steps", list: steps, err: err2}, {name: "Least", list: least, err: err3}, {name: "Same", is: is, err: err4}, {name: "Ahead", list: ahead, err: err5}}
}

// answersOf letters and words in which nothing is wrong.
func answersOf(steps, least []int, is bool, ahead []int) []answer {
	return []answer{{name: "Check"}, {name: "Steps", list: steps}, {name: "Least", list: least}, {name: "Same", is: is}, {name: "Ahead", list: ahead}}
}

// textOf answers, by which they are held against each other.
func textOf(all []answer) string {
	s := ""
	for _, x := range all {
		s += fmt.Sprintln(x.name, x.list, x.is, plain.Told(x.err))
	}
	return s
}

// wildNumbers: such as may be, and such as may not.
func wildNumbers() []int {
	return []int{0, 1, 2, 5, 6, 31, 62, 63, 64, -1, -2, -64, math.MinInt, math.MaxInt, 1 << 32}
}

// wildFree: letters of all kinds, and what are none.
func wildFree() [][]int {
	out := [][]int{nil, {}, free(1), free(2, "ab"), allFree(6), free(6), free(7), allFree(7), wildNumbers(), make([]int, 64), make([]int, 1000)}
	for _, x := range wildNumbers() {
		out = append(out, []int{x}, with(allFree(6), 5, x), with(allFree(7), 6, x))
		for _, y := range wildNumbers() {
			out = append(out, []int{x, y}, with(with(free(6), 0, x), 1, y))
		}
	}
	return out
}

// wildWords: words of all kinds, and what are none.
func wildWords() [][]int {
	out := [][]int{nil, {}, wildNumbers(), {0, 1, 0}, {5, 4, 3, 2, 1, 0}, alike(0, 24), alike(0, 25), alike(5, 24), alike(-1, 25), make([]int, 1000)}
	for _, x := range wildNumbers() {
		out = append(out, []int{x}, []int{0, x}, with(alike(0, 24), 23, x))
	}
	return out
}

// TestAnythingGoes holds P1: no call panics, and beside an error there is nothing; and P3: an error is a number that has a name, not OK.
func TestAnythingGoes(t *testing.T) {
	may := []api.Errno{api.ErrRange, api.ErrFull, api.ErrClash}
	for _, f := range wildFree() {
		for _, v := range [][]int{nil, {0}, {1, 6}, alike(2, 25)} {
			for _, w := range wildWords() {
				for _, got := range askAll(f, v, w) {
					if got.err == nil {
						continue
					}
					if got.list != nil || got.is || !slices.Contains(may, plain.Told(got.err)) {
						t.Fatalf("%s %v %v %v: beside %v: %v", got.name, f, v, w, got.err, got)
					}
				}
			}
		}
	}
}

// TestNumbers holds P3: the errors that chapter 11 tells have the numbers that the document names.
func TestNumbers(t *testing.T) {
	var e api.Errno
	for _, x := range []struct {
		free, v, w []int
		want       []api.Errno
	}{
		{free(7), nil, nil, []api.Errno{4, 4, 4, 4, 4}},
		{[]int{-1}, nil, nil, []api.Errno{1, 1, 1, 1, 1}},
		{[]int{1}, nil, nil, []api.Errno{6, 6, 6, 6, 6}},
		{[]int{2, 0}, nil, nil, []api.Errno{6, 6, 6, 6, 6}},
		{free(1), nil, alike(0, 25), []api.Errno{0, 4, 4, 4, 4}},
		{free(1), nil, []int{1}, []api.Errno{0, 1, 1, 1, 1}},
		{free(1), []int{1}, alike(0, 25), []api.Errno{0, 4, 4, 1, 4}},
		{free(1), alike(0, 25), nil, []api.Errno{0, 0, 0, 4, 0}},
	} {
		for i, got := range askAll(x.free, x.v, x.w) {
			if x.want[i] == 0 && got.err != nil || x.want[i] != 0 && (!errors.As(got.err, &e) || e != x.want[i]) {
				t.Errorf("%s %v %v %v: got %v, want %v", got.name, x.free, x.v, x.w, got.err, x.want[i])
			}
		}
	}
}

// behind a list lies something that belongs to somebody else.
func behind(l []int, junk ...int) (list, memory []int) {
	memory = append(slices.Clone(l), junk...)
	return memory[:len(l)], memory
}

// TestNothingWrittenInto holds P2: neither a list nor what lies behind it in memory is written into, also where a call fails.
func TestNothingWrittenInto(t *testing.T) {
	for _, f := range wildFree() {
		for _, w := range wildWords() {
			letters, memory1 := behind(f, 77, 78)
			first, memory2 := behind(w, 79, 80)
			second, memory3 := behind(w, 81, 82)
			askAll(letters, first, second)
			askAll(letters, alike(0, 3), second)
			if !slices.Equal(memory1, append(slices.Clone(f), 77, 78)) {
				t.Fatalf("%v became %v", f, memory1)
			}
			if !slices.Equal(memory2, append(slices.Clone(w), 79, 80)) || !slices.Equal(memory3, append(slices.Clone(w), 81, 82)) {
				t.Fatalf("%v became %v, %v", w, memory2, memory3)
			}
		}
	}
}

// TestAnswersAreFresh holds P2: who writes all over an answer writes into no other one, nor into what was handed in, and nothing comes out otherwise later.
func TestAnswersAreFresh(t *testing.T) {
	for _, x := range allWorkedOut() {
		f, v, w := slices.Clone(x.free), word(x.least), word(x.w)
		want := textOf(answersOf(sets(x.steps), word(x.least), true, x.ahead))
		var lists [][]int
		for range 3 {
			for _, got := range askAll(f, v, w) {
				if got.err != nil {
					t.Fatal(x.name, got.name, got.err)
				}
				lists = append(lists, got.list[:cap(got.list)])
			}
		}
		for i, l := range lists {
			for j := range l {
				l[j] = -5 - i
			}
		}
		for i, l := range lists {
			if !slices.Equal(l, alike(-5-i, len(l))) {
				t.Fatalf("%s: answer %d became %v", x.name, i, l)
			}
		}
		if !slices.Equal(f, x.free) || !slices.Equal(v, word(x.least)) || !slices.Equal(w, word(x.w)) {
			t.Errorf("%s: became %v %v %v", x.name, f, v, w)
		}
		if got := textOf(askAll(f, v, w)); got != want {
			t.Errorf("%s, later: got %s, want %s", x.name, got, want)
		}
	}
}

// TestNothingKept holds P2: an answer stays as it is when a list changes later, and lists as they are at each call are asked.
func TestNothingKept(t *testing.T) {
	f, v, w := free(3, "ab"), word("abc"), word("bac")
	first := askAll(f, v, w)
	want := textOf(answersOf(sets("ab c"), word("abc"), true, []int{4, 4, 0}))
	changed := textOf(answersOf(sets("ab b"), word("abb"), false, []int{4, 0, 0}))
	apart := textOf(answersOf(sets("b a b"), word("bab"), false, []int{6, 4, 0}))
	for range 2 {
		if got := textOf(askAll(f, v, w)); got != want {
			t.Errorf("got %s, want %s", got, want)
		}
		w[2] = 1
		if got := textOf(askAll(f, v, w)); got != changed {
			t.Errorf("of the changed word: got %s, want %s", got, changed)
		}
		f[0], f[1] = 0, 0
		if got := textOf(askAll(f, v, w)); got != apart {
			t.Errorf("of the changed letters: got %s, want %s", got, apart)
		}
		askAll(free(7), v, w)
		askAll(f, alike(0, 25), alike(9, 3))
		askAll(allFree(6), alike(5, 24), word("fedcba"))
		f[0], f[1], w[2] = 2, 1, 2
	}
	f[0], v[0], w[1] = 0, 2, 2
	if got := textOf(first); got != want {
		t.Errorf("the first answers became %s, were %s", got, want)
	}
}

// TestEmptyIsNil holds P4.
func TestEmptyIsNil(t *testing.T) {
	want := textOf(answersOf(nil, nil, true, nil))
	for _, f := range [][]int{nil, {}, make([]int, 0, 9), allFree(6)[:0]} {
		for _, w := range [][]int{nil, {}, make([]int, 0, 40), word("abc")[:0]} {
			for _, v := range [][]int{nil, {}, w} {
				if got := textOf(askAll(f, v, w)); got != want {
					t.Errorf("got %s, want %s", got, want)
				}
				if got := textOf(askAll(allFree(2), v, w)); got != want {
					t.Errorf("of two letters: got %s, want %s", got, want)
				}
			}
		}
		tells(t, "no letters", f, []int{0}, api.ErrRange)
	}
}

// TestBehindTheLengthNotRead holds P4.
func TestBehindTheLengthNotRead(t *testing.T) {
	want := textOf(answersOf(sets("ab c"), word("abc"), true, []int{4, 4, 0}))
	for _, junk := range [][]int{{-1}, {math.MinInt, 9}, make([]int, 40), {7, 0, 1, 2}} {
		for _, more := range [][]int{{-1}, {25, 5}, make([]int, 40), {0, 1, 2}} {
			f, _ := behind(free(3, "ab"), junk...)
			v, _ := behind(word("abc"), more...)
			w, _ := behind(word("bac"), more...)
			if got := textOf(askAll(f, v, w)); got != want {
				t.Errorf("ahead of %v, %v: got %s, want %s", junk, more, got, want)
			}
		}
	}
	tells(t, "a letter only behind the length", allFree(3)[:1], []int{0}, api.ErrRange)
	tells(t, "a letter of a word only behind the length", free(3)[:2], word("abc"), api.ErrRange)
}
