package fold_test

import (
	"slices"
	"testing"

	"whenstead/api"
	"whenstead/chain"
	"whenstead/extend"
	"whenstead/fold"
	"whenstead/plain"
)

// neighbours: words that become each other by changes of two that stand side by side, worked out change by change.
type neighbours struct {
	free    []int
	classes map[string][]string // of each word all that are the same, itself, too
}

// neighboursOf some letters.
func neighboursOf(free []int) *neighbours {
	return &neighbours{free, map[string][]string{}}
}

// may two letters change places?
func (n *neighbours) may(a, b byte) bool { return n.free[a-'a']>>(b-'a')&1 == 1 }

// class of all words that are the same as one.
func (n *neighbours) class(w string) []string {
	if class, ok := n.classes[w]; ok {
		return class
	}
	class, met := []string{w}, map[string]bool{w: true}
	for k := 0; k < len(class); k++ {
		for i := 1; i < len(w); i++ {
			if next := []byte(class[k]); n.may(next[i-1], next[i]) {
				next[i-1], next[i] = next[i], next[i-1]
				if !met[string(next)] {
					met[string(next)] = true
					class = append(class, string(next))
				}
			}
		}
	}
	for _, other := range class {
		n.classes[other] = class
	}
	return class
}

// steps: what may come to stand first, and then likewise of what stands behind all that in one that is the same.
func (n *neighbours) steps(w string) []int {
	if w == "" {
		return nil
	}
	firsts := ""
	for _, other := range n.class(w) {
		if !slices.Contains([]byte(firsts), other[0]) {
			firsts += other[:1]
		}
	}
	for _, other := range n.class(w) {
		if lettersOf(other[:len(firsts)]) == lettersOf(firsts) {
			return append([]int{lettersOf(firsts)}, n.steps(other[len(firsts):])...)
		}
	}
	panic("what may come to stand first cannot all stand ahead: " + w)
}

// ahead: of two letters that may not change places, as a word, no other one is the same.
func (n *neighbours) ahead(w string) []int {
	all := make([]int, len(w))
	for i := range w {
		for j := i + 1; j < len(w); j++ {
			if len(n.class(w[i:i+1]+w[j:j+1])) == 1 {
				all[i] |= 1 << j
			}
		}
	}
	return all
}

// hold Steps, Least and Ahead of a word against what goes by changes of neighbours, and against chapters 2 and 3.
func (n *neighbours) hold(t *testing.T, text string) {
	t.Helper()
	w := word(text)
	steps, err := fold.Steps(n.free, w)
	if want := n.steps(text); err != nil || !slices.Equal(steps, want) {
		t.Fatalf("Steps %v %s: got %v, %v, want %v", n.free, text, steps, err, want)
	}
	least, err := fold.Least(n.free, w)
	if want := slices.Min(n.class(text)); err != nil || !slices.Equal(least, word(want)) {
		t.Fatalf("Least %v %s: got %v, %v, want %s", n.free, text, least, err, want)
	}
	ahead, err := fold.Ahead(n.free, w)
	if want := n.ahead(text); err != nil || !slices.Equal(ahead, want) {
		t.Fatalf("Ahead %v %s: got %v, %v, want %v", n.free, text, ahead, err, want)
	}
	if len(w) <= api.MaxThings {
		holdOrder(t, n.free, w, steps, ahead, len(n.class(text)))
	}
}

// holdOrder: Ahead is an order, by chapter 3 with a row for each word that is the same, and the rank of each place, by chapter 2, is the number of its step.
func holdOrder(t *testing.T, free, w, steps, ahead []int, many int) {
	t.Helper()
	if rows, err := extend.Count(ahead); err != nil || rows != many {
		t.Fatalf("%v %v: %v has %d rows, %v, but %d words are the same", free, w, ahead, rows, err, many)
	}
	ranks, err := chain.Ranks(ahead)
	if err != nil {
		t.Fatal(free, w, err)
	}
	byRank := make([]int, len(steps))
	for i, rank := range ranks {
		if rank >= len(steps) {
			t.Fatalf("%v %v: %v, but ranks %v", free, w, steps, ranks)
		}
		byRank[rank] |= 1 << w[i]
	}
	if !slices.Equal(byRank, steps) {
		t.Fatalf("%v %v: %v, but ranks %v", free, w, steps, ranks)
	}
}

// holdSame of two words, and that those that are the same have the same steps, and the same least one.
func (n *neighbours) holdSame(t *testing.T, v, w string) {
	t.Helper()
	want := slices.Contains(n.class(v), w)
	if got, err := fold.Same(n.free, word(v), word(w)); err != nil || got != want {
		t.Fatalf("Same %v %s %s: got %v, %v, want %v", n.free, v, w, got, err, want)
	}
	steps1, _ := fold.Steps(n.free, word(v))
	steps2, _ := fold.Steps(n.free, word(w))
	least1, _ := fold.Least(n.free, word(v))
	least2, _ := fold.Least(n.free, word(w))
	if slices.Equal(steps1, steps2) != want || slices.Equal(least1, least2) != want {
		t.Fatalf("%v: Same is %v of %s and %s, but %v and %v, %v and %v", n.free, want, v, w, steps1, steps2, least1, least2)
	}
}

// everyFree calls of with so many letters, of which these and those may change places, in all ways in which they can.
func everyFree(n int, of func(free []int)) {
	var pairs []string
	for a := range n {
		for b := range a {
			pairs = append(pairs, string([]byte{'a' + byte(b), 'a' + byte(a)}))
		}
	}
	for which := range 1 << len(pairs) {
		var some []string
		for i, p := range pairs {
			if which>>i&1 == 1 {
				some = append(some, p)
			}
		}
		of(free(n, some...))
	}
}

// everyWord of so many letters, out of n.
func everyWord(n, long int) []string {
	all := []string{""}
	for range long {
		var longer []string
		for _, w := range all {
			for letter := range n {
				longer = append(longer, w+string([]byte{'a' + byte(letter)}))
			}
		}
		all = longer
	}
	return all
}

// TestEvery holds 11.2 at all short words over few letters, in all ways in which these may change places.
func TestEvery(t *testing.T) {
	for _, x := range []struct{ letters, long int }{{0, 0}, {1, 12}, {2, 9}, {3, 6}, {4, 4}, {5, 3}, {6, 2}} {
		everyFree(x.letters, func(free []int) {
			n := neighboursOf(free)
			for long := range x.long + 1 {
				for _, w := range everyWord(x.letters, long) {
					n.hold(t, w)
				}
			}
		})
	}
}

// TestEveryPair holds Same at all pairs of short words, of one length and of several.
func TestEveryPair(t *testing.T) {
	for _, x := range []struct{ letters, long int }{{0, 0}, {1, 6}, {2, 5}, {3, 4}, {4, 2}} {
		var words []string
		for long := range x.long + 1 {
			words = append(words, everyWord(x.letters, long)...)
		}
		everyFree(x.letters, func(free []int) {
			n := neighboursOf(free)
			for _, v := range words {
				for _, w := range words {
					n.holdSame(t, v, w)
				}
			}
		})
	}
}

// TestEveryOrder holds 11.2 at all words of six different letters that may change places in some ways.
func TestEveryOrder(t *testing.T) {
	for _, f := range [][]int{free(6), allFree(6), free(6, "ad", "be", "cf"), free(6, "ab", "bc", "cd", "de", "ef"), free(6, "ab", "bc", "cd", "de", "ef", "fa"), free(6, "ac", "ad", "ae", "af", "bd", "be", "bf", "ce", "cf", "df"), free(6, "fa", "fb", "fc", "fd", "fe")} {
		n := neighboursOf(f)
		for _, w := range turned("abcdef") {
			n.hold(t, w)
		}
	}
}

// turned: all words with the same letters, in whatever order.
func turned(w string) []string {
	if w == "" {
		return []string{""}
	}
	var all []string
	for i := range w {
		for _, rest := range turned(w[:i] + w[i+1:]) {
			all = append(all, w[i:i+1]+rest)
		}
	}
	return all
}

// wantCheck goes through the faults of 11.1 in its words.
func wantCheck(free []int) api.Errno {
	has := func(a, b int) bool { return free[a]>>b&1 == 1 }
	if len(free) > 6 {
		return api.ErrFull
	}
	for a := range free {
		if free[a] < 0 || free[a] >= 1<<len(free) {
			return api.ErrRange
		}
	}
	for a := range free {
		for b := range free {
			if has(a, a) || has(a, b) != has(b, a) {
				return api.ErrClash
			}
		}
	}
	return api.OK
}

// TestEveryCheck holds 11.1 at all lists of up to four numbers that are not far from what may be.
func TestEveryCheck(t *testing.T) {
	for n := range 5 {
		fine := 0
		f := make([]int, n)
		var fill func(i int)
		fill = func(i int) {
			if i == n {
				want := wantCheck(f)
				if err := fold.Check(f); plain.Told(err) != want {
					t.Fatalf("Check %v: got %v, want %v", f, err, want)
				}
				if want == api.OK {
					fine++
				}
				return
			}
			for s := -2; s <= 1<<n+1; s++ {
				f[i] = s
				fill(i + 1)
			}
		}
		fill(0)
		if want := 1 << (n * (n - 1) / 2); fine != want {
			t.Errorf("%d letters: nothing is wrong with %d lists, want %d", n, fine, want)
		}
	}
}
