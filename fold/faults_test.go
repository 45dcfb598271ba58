package fold_test

import (
	"fmt"
	"math"
	"slices"
	"testing"

	"whenstead/api"
	"whenstead/fold"
	"whenstead/plain"
)

// tells: Steps, Least, and Ahead of a word, and Same of it and others with which nothing is wrong, tell an error, and answer nothing beside it.
func tells(t *testing.T, name string, free, w []int, want api.Errno) {
	t.Helper()
	if got, err := fold.Steps(free, w); plain.Told(err) != want || got != nil {
		t.Errorf("%s: Steps: got %v, %v, want %v", name, got, err, want)
	}
	if got, err := fold.Least(free, w); plain.Told(err) != want || got != nil {
		t.Errorf("%s: Least: got %v, %v, want %v", name, got, err, want)
	}
	if got, err := fold.Ahead(free, w); plain.Told(err) != want || got != nil {
		t.Errorf("%s: Ahead: got %v, %v, want %v", name, got, err, want)
	}
	sameTells(t, name, free, w, nil, want)
	sameTells(t, name, free, nil, w, want)
	sameTells(t, name, free, w, w, want)
}

// sameTells: Same tells an error, and false.
func sameTells(t *testing.T, name string, free, v, w []int, want api.Errno) {
	t.Helper()
	if got, err := fold.Same(free, v, w); plain.Told(err) != want || got {
		t.Errorf("%s: Same %v %v: got %v, %v, want %v", name, v, w, got, err, want)
	}
}

// badFree are letters of which Check tells something.
type badFree struct {
	name string
	free []int
	want api.Errno
}

// with another set at a place.
func with(free []int, letter, s int) []int {
	free = slices.Clone(free)
	free[letter] = s
	return free
}

// alike: n numbers that are the same.
func alike(x, n int) []int { return slices.Repeat([]int{x}, n) }

// badSets: letters of which one has what is no set of them.
func badSets() []badFree {
	all := []badFree{
		{"one letter, with one that is not there", []int{2}, api.ErrRange},
		{"one letter, with itself and one that is not there", []int{3}, api.ErrRange},
		{"all have one that is not there", alike(64, 6), api.ErrRange},
	}
	for n := 1; n <= api.MaxLetters; n++ {
		for _, s := range []int{-1, -2, -1 << n, math.MinInt, math.MinInt + 1, 1 << n, 1<<n + 1, 1<<(n+1) - 1, 1 << 32, 1 << 62, math.MaxInt} {
			for letter := range n {
				all = append(all, badFree{fmt.Sprintf("letter %d of %d has %d", letter, n, s), with(free(n), letter, s), api.ErrRange})
				all = append(all, badFree{fmt.Sprintf("letter %d of %d that may has %d", letter, n, s), with(allFree(n), letter, s), api.ErrRange})
			}
		}
	}
	return all
}

// badClashes: sets of letters that stand against each other.
func badClashes() []badFree {
	var all []badFree
	for n := 1; n <= api.MaxLetters; n++ {
		for a := range n {
			all = append(all, badFree{fmt.Sprintf("letter %d of %d has itself", a, n), with(free(n), a, 1<<a), api.ErrClash})
			all = append(all, badFree{fmt.Sprintf("letter %d of %d has all", a, n), with(allFree(n), a, 1<<n-1), api.ErrClash})
			for b := range n {
				if a != b {
					all = append(all, badFree{fmt.Sprintf("letter %d of %d has %d alone", a, n, b), with(free(n), a, 1<<b), api.ErrClash})
					all = append(all, badFree{fmt.Sprintf("letter %d of %d has all but %d", a, n, b), with(allFree(n), a, allFree(n)[a]&^(1<<b)), api.ErrClash})
				}
			}
		}
	}
	return append(all,
		badFree{"round three", []int{2, 4, 1}, api.ErrClash},
		badFree{"all have all", alike(63, 6), api.ErrClash},
		badFree{"as many pairs, but crosswise", []int{4, 8, 2, 1}, api.ErrClash})
}

// badSeveral: letters with more than one fault.
func badSeveral() []badFree {
	return []badFree{
		{"a letter too many", free(7), api.ErrFull},
		{"a letter too many, all may", allFree(7), api.ErrFull},
		{"many too many", make([]int, 1<<16), api.ErrFull},
		{"a letter too many, no sets", alike(-1, 7), api.ErrFull},
		{"a letter too many, with one that is not there", with(free(7), 6, 128), api.ErrFull},
		{"a letter too many, with itself", with(free(7), 0, 1), api.ErrFull},
		{"a letter too many, one alone, no set", []int{2, 0, 0, 0, 0, 0, math.MinInt}, api.ErrFull},
		{"itself, then no set", []int{1, -1}, api.ErrRange},
		{"no set, then itself", []int{-1, 2}, api.ErrRange},
		{"one alone, then no set", []int{2, 0, 8}, api.ErrRange},
		{"itself, and one that is not there", []int{5, 0}, api.ErrRange},
		{"one alone, and one that is not there", []int{6, 0}, api.ErrRange},
		{"itself, and one alone", []int{3, 0}, api.ErrClash},
	}
}

// allBad letters above.
func allBad() []badFree { return slices.Concat(badSets(), badClashes(), badSeveral()) }

// TestCheckFaults holds 11.1: what is wrong with letters, each fault alone and several at once.
func TestCheckFaults(t *testing.T) {
	for _, x := range allBad() {
		if err := fold.Check(x.free); plain.Told(err) != x.want {
			t.Errorf("%s: got %v, want %v", x.name, err, x.want)
		}
	}
}

// TestLettersFirst holds 11.1: what is wrong with the letters comes first, whatever the words are.
func TestLettersFirst(t *testing.T) {
	words := [][]int{nil, {0}, {0, 0}, {-1}, {6}, {7, -1}, {math.MinInt}, {math.MaxInt, 0}, alike(0, 24), alike(0, 25), alike(-1, 25)}
	for _, x := range allBad() {
		for _, w := range words {
			tells(t, fmt.Sprint(x.name, ", ", w), x.free, w, x.want)
		}
		for _, v := range words {
			sameTells(t, x.name, x.free, v, alike(9, 25), x.want)
			sameTells(t, x.name, x.free, v, []int{9}, x.want)
		}
	}
}

// TestTooLong holds 11.1: a word that is longer by one than may be, or by more, whatever its letters are; one that is as long as may be is not.
func TestTooLong(t *testing.T) {
	for n := range api.MaxLetters + 1 {
		for _, f := range [][]int{free(n), allFree(n)} {
			for _, long := range []int{api.MaxWord + 1, api.MaxWord + 2, 48, 64, 1 << 16} {
				for _, letter := range []int{0, n - 1, n, -1, math.MinInt, math.MaxInt} {
					tells(t, fmt.Sprintf("%v: %d times %d", f, long, letter), f, alike(letter, long), api.ErrFull)
				}
			}
			if n == 0 {
				continue
			}
			if _, err := fold.Steps(f, alike(n-1, api.MaxWord)); err != nil {
				t.Errorf("%v: as long as may be: got %v", f, err)
			}
		}
	}
}

// TestLetterRange holds 11.1: a letter that is not there, at each place of words of all lengths.
func TestLetterRange(t *testing.T) {
	for n := range api.MaxLetters + 1 {
		for _, bad := range []int{n, n + 1, 63, 64, 65, 1 << 32, 1<<32 + 1, math.MaxInt, -1, -2, -64, -1 << 32, math.MinInt, math.MinInt + 1} {
			for _, f := range [][]int{free(n), allFree(n)} {
				tells(t, fmt.Sprintf("%v: %d alone", f, bad), f, []int{bad}, api.ErrRange)
				for long := 1; n > 0 && long <= api.MaxWord; long++ {
					tells(t, fmt.Sprintf("%v: %d first of %d", f, bad, long), f, with(alike(n-1, long), 0, bad), api.ErrRange)
					tells(t, fmt.Sprintf("%v: %d last of %d", f, bad, long), f, with(alike(0, long), long-1, bad), api.ErrRange)
					tells(t, fmt.Sprintf("%v: %d between", f, bad), f, with(alike(0, long), long/2, bad), api.ErrRange)
				}
			}
		}
	}
}

// TestFirstOfTwo holds 11.2: Same tells all that is wrong with v ahead of what is wrong with w.
func TestFirstOfTwo(t *testing.T) {
	for n := 1; n <= api.MaxLetters; n++ {
		f := allFree(n)
		long, far, both := alike(0, 25), []int{0, n}, alike(n, 25)
		for _, fine := range [][]int{nil, {0}, {n - 1, 0}, alike(0, 24)} {
			sameTells(t, "w too long", f, fine, long, api.ErrFull)
			sameTells(t, "w too far", f, fine, far, api.ErrRange)
			sameTells(t, "w both", f, fine, both, api.ErrFull)
		}
		sameTells(t, "v too long, w too far", f, long, far, api.ErrFull)
		sameTells(t, "v too far, w too long", f, far, long, api.ErrRange)
		sameTells(t, "v both, w too far", f, both, far, api.ErrFull)
		sameTells(t, "v too far, w both", f, far, both, api.ErrRange)
	}
}
