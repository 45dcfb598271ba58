package fold_test

import (
	"slices"
	"testing"

	"whenstead/api"
	"whenstead/fold"
	"whenstead/plain"
)

// chance gives numbers that look as if by chance, but are the same at each run.
type chance uint

// next number below n.
func (c *chance) next(n int) int {
	*c = *c*6364136223846793005 + 1442695040888963407
	return int((uint(*c) >> 33) % uint(n))
}

// anyFree letters with which nothing is wrong; of some few pairs may change places, of some most may.
func (c *chance) anyFree() []int {
	f := make([]int, 1+c.next(api.MaxLetters))
	much := c.next(6)
	for a := range f {
		for b := range a {
			if c.next(5) < much {
				f[a] |= 1 << b
				f[b] |= 1 << a
			}
		}
	}
	return f
}

// anyWord of some letters.
func (c *chance) anyWord(letters int) []int {
	w := make([]int, c.next(api.MaxWord+1))
	for i := range w {
		w[i] = c.next(letters)
	}
	return w
}

// stirred: a word after many changes of neighbours that may.
func (c *chance) stirred(free, w []int) []int {
	w = slices.Clone(w)
	for range 20 * len(w) {
		if i := c.next(len(w)); i > 0 && may(free, w[i-1], w[i]) {
			w[i-1], w[i] = w[i], w[i-1]
		}
	}
	return w
}

// shuffled: a word with its letters in any order.
func (c *chance) shuffled(w []int) []int {
	w = slices.Clone(w)
	for i := range w {
		j := c.next(i + 1)
		w[i], w[j] = w[j], w[i]
	}
	return w
}

// crossed: a word in which two neighbours that are not the same letter changed places, though they may not; false, if there are none.
func (c *chance) crossed(free, w []int) ([]int, bool) {
	var at []int
	for i := 1; i < len(w); i++ {
		if w[i-1] != w[i] && !may(free, w[i-1], w[i]) {
			at = append(at, i)
		}
	}
	if len(at) == 0 {
		return nil, false
	}
	i := at[c.next(len(at))]
	w = slices.Clone(w)
	w[i-1], w[i] = w[i], w[i-1]
	return w, true
}

// may two letters change places?
func may(free []int, a, b int) bool { return free[a]>>b&1 == 1 }

// twoAtATime: words are the same just if, of any two letters that may not change places, and of any one, both leave the same word.
func twoAtATime(free, v, w []int) bool {
	left := func(w []int, a, b int) []int {
		return slices.DeleteFunc(slices.Clone(w), func(x int) bool { return x != a && x != b })
	}
	for a := range free {
		for b := range a + 1 {
			if !may(free, a, b) && !slices.Equal(left(v, a, b), left(w, a, b)) {
				return false
			}
		}
	}
	return true
}

// holdSteps: no set is empty, those of one set may all change places, and each letter of a word is in the first set behind the last one that has one with which it may not.
func holdSteps(t *testing.T, free, w []int) {
	t.Helper()
	steps, err := fold.Steps(free, w)
	if err != nil || slices.Contains(steps, 0) {
		t.Fatalf("Steps %v %v: got %v, %v", free, w, steps, err)
	}
	for _, s := range steps {
		for a := range free {
			for b := range a {
				if s>>a&1 == 1 && s>>b&1 == 1 && !may(free, a, b) {
					t.Fatalf("Steps %v %v: got %v, but %d and %d may not change places", free, w, steps, a, b)
				}
			}
		}
	}
	want := make([]int, len(w))
	for _, letter := range w {
		at := 0
		for k, s := range want {
			for other := range free {
				if s>>other&1 == 1 && !may(free, letter, other) {
					at = k + 1
				}
			}
		}
		want[at] |= 1 << letter
	}
	if want = slices.DeleteFunc(want, func(s int) bool { return s == 0 }); !slices.Equal(steps, want) {
		t.Fatalf("Steps %v %v: got %v, want %v", free, w, steps, want)
	}
	if len(steps) > 0 {
		holdFirst(t, free, w, steps[0])
	}
}

// holdFirst: the first set has just the letters ahead of whose first place none stands with which they may not change places.
func holdFirst(t *testing.T, free, w []int, first int) {
	t.Helper()
	for letter := range free {
		at := slices.Index(w, letter)
		comes := at >= 0 && !slices.ContainsFunc(w[:max(at, 0)], func(other int) bool { return !may(free, letter, other) })
		if comes != (first>>letter&1 == 1) {
			t.Fatalf("%v %v: the first step is %v", free, w, first)
		}
	}
}

// holdLeast: it is the same word, it is the least one itself, and nowhere in it stands a letter that may go ahead to where a greater one stands.
func holdLeast(t *testing.T, free, w []int) {
	t.Helper()
	least, err := fold.Least(free, w)
	if err != nil || !twoAtATime(free, w, least) || slices.Compare(least, w) > 0 {
		t.Fatalf("Least %v %v: got %v, %v", free, w, least, err)
	}
	if again, err := fold.Least(free, least); err != nil || !slices.Equal(again, least) {
		t.Fatalf("Least %v %v: got %v, but of that %v, %v", free, w, least, again, err)
	}
	for j, letter := range least {
		for i := j - 1; i >= 0 && may(free, letter, least[i]); i-- {
			if letter < least[i] {
				t.Fatalf("Least %v %v: got %v, but place %d may stand at %d", free, w, least, j, i)
			}
		}
	}
}

// holdAhead: of each pair of places just those behind, whose letters may not change places; no place is in its own set.
func holdAhead(t *testing.T, free, w []int) {
	t.Helper()
	ahead, err := fold.Ahead(free, w)
	if err != nil || len(ahead) != len(w) {
		t.Fatalf("Ahead %v %v: got %v, %v", free, w, ahead, err)
	}
	for i, s := range ahead {
		if s < 0 || s >= 1<<len(w) {
			t.Fatalf("Ahead %v %v: got %v", free, w, ahead)
		}
		for j := range w {
			if is := s>>j&1 == 1; is != (i < j && !may(free, w[i], w[j])) {
				t.Fatalf("Ahead %v %v: got %v: %d and %d", free, w, ahead, i, j)
			}
		}
	}
}

// holdPair of words: Same goes by two letters at a time, and by steps and least ones that are the same.
func holdPair(t *testing.T, free, v, w []int) bool {
	t.Helper()
	want := twoAtATime(free, v, w)
	there, err1 := fold.Same(free, v, w)
	back, err2 := fold.Same(free, w, v)
	if err1 != nil || err2 != nil || there != want || back != want {
		t.Fatalf("Same %v %v %v: got %v, %v and %v, %v, want %v", free, v, w, there, err1, back, err2, want)
	}
	steps1, _ := fold.Steps(free, v)
	steps2, _ := fold.Steps(free, w)
	least1, _ := fold.Least(free, v)
	least2, _ := fold.Least(free, w)
	if slices.Equal(steps1, steps2) != want || slices.Equal(least1, least2) != want {
		t.Fatalf("%v: Same is %v of %v and %v, but %v and %v, %v and %v", free, want, v, w, steps1, steps2, least1, least2)
	}
	return want
}

// TestMany holds 11.2 at many words of all lengths, over letters of all kinds.
func TestMany(t *testing.T) {
	c := chance(11)
	for range 4000 {
		f := c.anyFree()
		w := c.anyWord(len(f))
		holdSteps(t, f, w)
		holdLeast(t, f, w)
		holdAhead(t, f, w)
	}
}

// TestManyPairs holds 11.1 and 11.2 at many pairs of words: stirred ones are the same, crossed ones are not, and others as it comes.
func TestManyPairs(t *testing.T) {
	c := chance(110)
	met := map[bool]int{}
	for range 2000 {
		f := c.anyFree()
		w := c.anyWord(len(f))
		v := c.stirred(f, w)
		if !holdPair(t, f, v, w) {
			t.Fatalf("%v: %v was stirred to %v", f, w, v)
		}
		if x, ok := c.crossed(f, v); ok && holdPair(t, f, x, w) {
			t.Fatalf("%v: %v was crossed to %v", f, v, x)
		}
		met[holdPair(t, f, c.shuffled(w), w)]++
		met[holdPair(t, f, c.anyWord(len(f)), w)]++
		if len(w) > 0 {
			met[holdPair(t, f, with(v, c.next(len(v)), c.next(len(f))), w)]++
		}
	}
	if met[true] < 100 || met[false] < 100 {
		t.Errorf("met %v", met)
	}
}

// wantWord goes through the faults of 11.1 in its words, of letters and of words one by one.
func wantWord(free []int, words ...[]int) api.Errno {
	if want := wantCheck(free); want != api.OK {
		return want
	}
	for _, w := range words {
		if len(w) > 24 {
			return api.ErrFull
		}
		for _, letter := range w {
			if letter < 0 || letter >= len(free) {
				return api.ErrRange
			}
		}
	}
	return api.OK
}

// anyFault puts one or several into letters or into a word; perhaps none.
func (c *chance) anyFault(free, w []int) ([]int, []int) {
	for range 1 + c.next(2) {
		switch c.next(5) {
		case 0:
			free = with(free, c.next(len(free)), c.next(1<<(len(free)+1))-2)
		case 1:
			a := c.next(len(free))
			free = with(free, a, free[a]^1<<c.next(len(free)))
		case 2:
			free = append(slices.Clone(free), 0)
		case 3:
			w = append(slices.Clone(w), c.next(len(free)+3)-1)
		case 4:
			w = slices.Concat(w, alike(c.next(len(free)), c.next(api.MaxWord)))
		}
	}
	return free, w
}

// TestManyFaults holds 11.1 at many letters and words with something changed.
func TestManyFaults(t *testing.T) {
	c := chance(111)
	met := map[api.Errno]int{}
	for range 5000 {
		f := c.anyFree()
		v := c.anyWord(len(f))
		f, w := c.anyFault(f, v)
		want := wantWord(f, w)
		met[want]++
		if err := fold.Check(f); plain.Told(err) != wantCheck(f) {
			t.Fatalf("Check %v: got %v, want %v", f, err, wantCheck(f))
		}
		if want != api.OK {
			tells(t, "changed", f, w, want)
		} else {
			holdPair(t, f, v, w)
		}
		if want := wantWord(f, v, w); want != api.OK {
			sameTells(t, "changed", f, v, w, want)
		}
	}
	for _, e := range []api.Errno{api.OK, api.ErrFull, api.ErrRange, api.ErrClash} {
		if met[e] < 100 {
			t.Errorf("met %v", met)
		}
	}
}
