package fold_test

import (
	"slices"
	"strings"
	"testing"

	"whenstead/api"
	"whenstead/fold"
)

// word of letters: a is 0, b is 1, and so on.
func word(text string) []int {
	w := make([]int, len(text))
	for i := range w {
		w[i] = int(text[i]) - 'a'
	}
	return w
}

// free letters, so many, of which those of each pair may change places.
func free(n int, pairs ...string) []int {
	f := make([]int, n)
	for _, p := range pairs {
		w := word(p)
		f[w[0]] |= 1 << w[1]
		f[w[1]] |= 1 << w[0]
	}
	return f
}

// allFree: so many letters, all of which may change places.
func allFree(n int) []int {
	f := make([]int, n)
	for i := range f {
		f[i] = (1<<n - 1) &^ (1 << i)
	}
	return f
}

// lettersOf a text, as a set.
func lettersOf(text string) int { return places(word(text)...) }

// places of a word, as a set.
func places(all ...int) int {
	s := 0
	for _, i := range all {
		s |= 1 << i
	}
	return s
}

// sets of letters, told with a space between.
func sets(told string) []int {
	var all []int
	for _, s := range strings.Fields(told) {
		all = append(all, lettersOf(s))
	}
	return all
}

// worked is a word with its steps, the least one that is the same, and the places behind each that must stay there, worked out by hand.
type worked struct {
	name  string
	free  []int
	w     string
	steps string
	least string
	ahead []int
}

// fewWorkedOut: words of no letters, of one and of two.
func fewWorkedOut() []worked {
	one, none, both := free(1), free(2), free(2, "ab")
	return []worked{
		{"no letters", nil, "", "", "", nil},
		{"one letter, the empty word", one, "", "", "", nil},
		{"one letter alone", one, "a", "a", "a", []int{0}},
		{"one letter, side by side", one, "aaa", "a a a", "aaa", []int{places(1, 2), places(2), 0}},
		{"the empty word, all may", both, "", "", "", nil},
		{"one letter alone, of two that may", both, "b", "b", "b", []int{0}},
		{"two that may not", none, "ba", "b a", "ba", []int{places(1), 0}},
		{"two that may", both, "ba", "ab", "ab", []int{0, 0}},
		{"two that may, and stand well", both, "ab", "ab", "ab", []int{0, 0}},
		{"side by side, the greater one ahead", both, "bbaa", "ab ab", "aabb", []int{places(1), 0, places(3), 0}},
		{"more of one", both, "aab", "ab a", "aab", []int{places(1), 0, 0}},
		{"more of the greater one", both, "bab", "ab b", "abb", []int{places(2), 0, 0}},
		{"others between that may", both, "abba", "ab ab", "aabb", []int{places(3), places(2), 0, 0}},
		{"others between that may not", none, "abba", "a b b a", "abba", []int{places(1, 2, 3), places(2, 3), places(3), 0}},
		{"by turns, that may not", none, "baba", "b a b a", "baba", []int{places(1, 2, 3), places(2, 3), places(3), 0}},
		{"far ahead", both, "bbba", "ab b b", "abbb", []int{places(1, 2), places(2), 0, 0}},
	}
}

// someWorkedOut: words of three letters and of four, some of which may change places.
func someWorkedOut() []worked {
	ab, ac, over, dark := free(3, "ab"), free(3, "ac"), free(3, "ab", "bc"), free(4, "ad", "bd")
	return []worked{
		{"what may not between what may", ab, "bca", "b c a", "bca", []int{places(1), places(2), 0}},
		{"what may not behind", ab, "bac", "ab c", "abc", []int{places(2), places(2), 0}},
		{"what may not ahead", ab, "cba", "c ab", "cab", []int{places(1, 2), 0, 0}},
		{"on both sides", ab, "bacba", "ab c ab", "abcab", []int{places(2, 3), places(2, 4), places(3, 4), 0, 0}},
		{"the outer ones may", ac, "cab", "ac b", "acb", []int{places(2), places(2), 0}},
		{"the outer ones may, with the other one between", ac, "cba", "c b a", "cba", []int{places(1), places(2), 0}},
		{"one may with both", over, "cba", "bc a", "bca", []int{places(2), 0, 0}},
		{"one may with both, and stands last", over, "cab", "bc a", "bca", []int{places(1), 0, 0}},
		{"one may with both, and stands first", over, "bac", "ab c", "abc", []int{0, places(2), 0}},
		{"a greater one holds all back", dark, "dcab", "d c a b", "dcab", []int{places(1), places(2, 3), places(3), 0}},
		{"a greater one is held back", dark, "dabc", "ad b c", "abdc", []int{places(3), places(2, 3), places(3), 0}},
		{"none of three", free(3), "cab", "c a b", "cab", []int{places(1, 2), places(2), 0}},
		{"all of three", allFree(3), "ccab", "abc c", "abcc", []int{places(1), 0, 0, 0}},
	}
}

// mostWorkedOut: words of as many letters as may be, and as long as may be.
func mostWorkedOut() []worked {
	pairs := free(6, "ad", "be", "cf")
	abcdef := strings.Repeat("abcdef ", 4)
	return []worked{
		{"six, all may", allFree(6), "fedcba", "abcdef", "abcdef", make([]int, 6)},
		{"six, none may", free(6), "fedcba", "f e d c b a", "fedcba", allBehind(6)},
		{"six, all may, twice", allFree(6), "fedcbafedcba", "abcdef abcdef", "aabbccddeeff", []int{1 << 6, 1 << 7, 1 << 8, 1 << 9, 1 << 10, 1 << 11, 0, 0, 0, 0, 0, 0}},
		{"three pairs", pairs, "daebfc", "ad be cf", "adbecf", []int{places(2, 3, 4, 5), places(2, 3, 4, 5), places(4, 5), places(4, 5), 0, 0}},
		{"three pairs, torn", pairs, "fedcba", "f e d c b a", "fedcba", []int{places(1, 2, 4, 5), places(2, 3, 5), places(3, 4), places(4, 5), places(5), 0}},
		{"one letter, as long as may be", free(1), strings.Repeat("a", api.MaxWord), strings.Repeat("a ", api.MaxWord), strings.Repeat("a", api.MaxWord), allBehind(api.MaxWord)},
		{"two, none may, as long as may be", free(2), strings.Repeat("ba", 12), strings.Repeat("b a ", 12), strings.Repeat("ba", 12), allBehind(api.MaxWord)},
		{"two, all may, as long as may be", free(2, "ab"), strings.Repeat("ba", 12), strings.Repeat("ab ", 12), strings.Repeat("a", 12) + strings.Repeat("b", 12), alikeBehind(2)},
		{"six, all may, as long as may be", allFree(6), strings.Repeat("fedcba", 4), abcdef, "aaaabbbbccccddddeeeeffff", alikeBehind(6)},
	}
}

// allBehind: of each of so many places all those behind it.
func allBehind(n int) []int {
	all := make([]int, n)
	for i := range all {
		all[i] = (1<<n - 1) &^ (1<<(i+1) - 1)
	}
	return all
}

// alikeBehind: of each place of a longest word those behind it that are so many further on, and so many further than those.
func alikeBehind(step int) []int {
	all := make([]int, api.MaxWord)
	for i := range all {
		for j := i + step; j < len(all); j += step {
			all[i] |= 1 << j
		}
	}
	return all
}

// allWorkedOut: all words above.
func allWorkedOut() []worked {
	return slices.Concat(fewWorkedOut(), someWorkedOut(), mostWorkedOut())
}

// TestSteps holds 11.2: which letters come into which set.
func TestSteps(t *testing.T) {
	for _, x := range allWorkedOut() {
		if got, err := fold.Steps(x.free, word(x.w)); err != nil || !slices.Equal(got, sets(x.steps)) {
			t.Errorf("%s: %s: got %v, %v, want %v", x.name, x.w, got, err, sets(x.steps))
		}
	}
}

// TestLeast holds 11.2: the least of all words that are the same, which is the least of all that are the same as it, too.
func TestLeast(t *testing.T) {
	for _, x := range allWorkedOut() {
		for _, w := range []string{x.w, x.least} {
			if got, err := fold.Least(x.free, word(w)); err != nil || !slices.Equal(got, word(x.least)) {
				t.Errorf("%s: %s: got %v, %v, want %s", x.name, w, got, err, x.least)
			}
		}
		if got, err := fold.Steps(x.free, word(x.least)); err != nil || !slices.Equal(got, sets(x.steps)) {
			t.Errorf("%s: the steps of %s: got %v, %v, want %v", x.name, x.least, got, err, sets(x.steps))
		}
	}
}

// TestAhead holds 11.2: which places must stay behind which.
func TestAhead(t *testing.T) {
	for _, x := range allWorkedOut() {
		if got, err := fold.Ahead(x.free, word(x.w)); err != nil || !slices.Equal(got, x.ahead) {
			t.Errorf("%s: %s: got %v, %v, want %v", x.name, x.w, got, err, x.ahead)
		}
	}
}

// same asks Same of two words, and of the two the other way round.
func same(t *testing.T, name string, free []int, v, w string, want bool) {
	t.Helper()
	if got, err := fold.Same(free, word(v), word(w)); err != nil || got != want {
		t.Errorf("%s: %s and %s: got %v, %v", name, v, w, got, err)
	}
	if got, err := fold.Same(free, word(w), word(v)); err != nil || got != want {
		t.Errorf("%s: %s and %s: got %v, %v", name, w, v, got, err)
	}
}

// TestSame holds 11.1 and 11.2: a word is the same as itself, and as the least one.
func TestSame(t *testing.T) {
	for _, x := range allWorkedOut() {
		same(t, x.name, x.free, x.w, x.w, true)
		same(t, x.name, x.free, x.w, x.least, true)
		if len(x.w) > 0 {
			same(t, x.name, x.free, x.w, x.w[1:], false)
			same(t, x.name, x.free, x.w, x.w[:len(x.w)-1], false)
			same(t, x.name, x.free, x.w, "", false)
		}
	}
}

// TestSameOfOthers holds 11.1 and 11.2: words that can be told apart, and others that cannot.
func TestSameOfOthers(t *testing.T) {
	none, both, ab, all := free(3), free(2, "ab"), free(3, "ab"), allFree(3)
	long, sorted := strings.Repeat("ab", 12), strings.Repeat("a", 12)+strings.Repeat("b", 12)
	for _, c := range []struct {
		name string
		free []int
		v, w string
		want bool
	}{
		{"neighbours that may", both, "ab", "ba", true},
		{"neighbours that may not", none, "ab", "ba", false},
		{"other letters that may", both, "a", "b", false},
		{"other letters, one more often", both, "aab", "abb", false},
		{"another length, the same letters", both, "ab", "abb", false},
		{"the first two of three", ab, "abc", "bac", true},
		{"the last two of three", ab, "cab", "cba", true},
		{"the last two of three, that may not", ab, "abc", "acb", false},
		{"with one between that may not", ab, "acb", "bca", false},
		{"with one between that may", all, "acb", "bca", true},
		{"on one side of what may not", ab, "abacb", "aabcb", true},
		{"from one side to the other one", ab, "abacb", "aacbb", false},
		{"both sides changed", ab, "abcab", "bacba", true},
		{"one over two, with which it may", free(3, "ac", "bc"), "abc", "cab", true},
		{"one over two, with the far one of which it may", free(3, "ac"), "abc", "cab", false},
		{"one over two, with the near one of which it may", free(3, "bc"), "abc", "cab", false},
		{"the same letters as often, others ahead", free(4, "ab", "cd"), "abcd", "cdab", false},
		{"two pairs turned", free(4, "ab", "cd"), "abcd", "badc", true},
		{"turned round, all may", allFree(6), "abcdef", "fedcba", true},
		{"turned round, all but one pair may", []int{62 &^ 32, 61, 59, 55, 47, 31 &^ 1}, "abcdef", "fedcba", false},
		{"all but one pair turned", []int{62 &^ 32, 61, 59, 55, 47, 31 &^ 1}, "abcdef", "edcbaf", true},
		{"as long as may be, that may", both, long, sorted, true},
		{"as long as may be, that may not", free(2), long, sorted, false},
		{"as long as may be, the last letter another one", both, long, sorted[:23] + "a", false},
		{"as long as may be, the last ones turned", free(2), long, long[:22] + "ba", false},
	} {
		same(t, c.name, c.free, c.v, c.w, c.want)
	}
}

// TestCheck holds 11.1: letters with which nothing is wrong.
func TestCheck(t *testing.T) {
	for _, x := range allWorkedOut() {
		if err := fold.Check(x.free); err != nil {
			t.Errorf("%s: got %v", x.name, err)
		}
	}
	for n := range api.MaxLetters + 1 {
		for _, f := range [][]int{free(n), allFree(n)} {
			if err := fold.Check(f); err != nil {
				t.Errorf("%v: got %v", f, err)
			}
		}
	}
	for _, f := range [][]int{free(2, "ab"), free(6, "af"), free(6, "ab", "cd", "ef"), free(3, "ab", "bc"), free(6, "ab", "bc", "cd", "de", "ef", "fa")} {
		if err := fold.Check(f); err != nil {
			t.Errorf("%v: got %v", f, err)
		}
	}
}
