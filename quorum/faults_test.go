package quorum_test

import (
	"fmt"
	"math"
	"slices"
	"strings"
	"testing"

	"whenstead/api"
	"whenstead/plain"
	"whenstead/quorum"
)

// tells: all calls with sets tell an error, and answer nothing beside it; Has whatever is asked of it.
func tells(t *testing.T, name string, n int, all []int, want api.Errno) {
	t.Helper()
	if err := quorum.Check(n, all); plain.Told(err) != want {
		t.Errorf("%s: Check: got %v, want %v", name, err, want)
	}
	if got, err := quorum.Least(n, all); plain.Told(err) != want || got != nil {
		t.Errorf("%s: Least: got %v, %v, want %v", name, got, err, want)
	}
	if is, some, err := quorum.Full(n, all); plain.Told(err) != want || is || some != 0 {
		t.Errorf("%s: Full: got %v, %v, %v, want %v", name, is, some, err, want)
	}
	if liars, fail, err := quorum.Masks(n, all); plain.Told(err) != want || liars != 0 || fail != 0 {
		t.Errorf("%s: Masks: got %v, %v, %v, want %v", name, liars, fail, err, want)
	}
	for _, some := range []int{0, 1, 2, 3, 255, 256, 511, -1, math.MinInt, math.MaxInt} {
		tellsHas(t, name, n, all, some, want)
	}
}

// tellsHas: Has tells an error, and answers nothing beside it.
func tellsHas(t *testing.T, name string, n int, all []int, some int, want api.Errno) {
	t.Helper()
	if is, err := quorum.Has(n, all, some); plain.Told(err) != want || is {
		t.Errorf("%s: Has %d: got %v, %v, want %v", name, some, is, err, want)
	}
}

// tellsVotes: Votes tells an error, and answers nothing beside it.
func tellsVotes(t *testing.T, name string, weights []int, need int, want api.Errno) {
	t.Helper()
	if got, err := quorum.Votes(weights, need); plain.Told(err) != want || got != nil {
		t.Errorf("%s: Votes %v %d: got %v, %v, want %v", name, weights, need, got, err, want)
	}
}

// outside numbers: below 0, and above the greatest that may be.
func outside(most int) []int {
	return []int{-1, -2, -most, -most - 1, -63, -64, -256, -1 << 32, math.MinInt, math.MinInt + 1,
		most + 1, most + 2, 2*most + 1, 2*most + 2, 1 << 20, 1 << 32, 1<<32 + 1, 1 << 62, math.MaxInt - 1, math.MaxInt}
}

// noCounts of nodes: such that can't be.
func noCounts() []int {
	return []int{0, -1, -2, -8, -63, -64, -65, -1 << 32, math.MinInt, math.MinInt + 1,
		9, 10, 16, 62, 63, 64, 65, 128, 1 << 32, 1<<32 + 1, 1 << 62, math.MaxInt}
}

// someSets of n nodes with which nothing is wrong: so many, all of which have the last node.
func someSets(n, long int) []int {
	all := make([]int, long)
	for i := range all {
		all[i] = power(n-1) + i*3%power(n-1)
	}
	return all
}

// with another number at a place.
func with(all []int, i, x int) []int {
	all = slices.Clone(all)
	all[i] = x
	return all
}

// TestCheckNodes holds 17.1: how many nodes there are, below and above what may be, whatever the sets are.
func TestCheckNodes(t *testing.T) {
	for _, n := range noCounts() {
		for _, all := range [][]int{nil, {}, {0}, {1}, {1, 1}, {-1}, {1, 2}, {math.MaxInt}, make([]int, 21), slices.Repeat(list(1), 20), slices.Repeat(list(1), 21)} {
			tells(t, fmt.Sprint(n, " nodes"), n, all, api.ErrRange)
		}
	}
	for n := 1; n <= 8; n++ {
		if err := quorum.Check(n, list(power(n)-1)); err != nil {
			t.Errorf("all of %d nodes: got %v", n, err)
		}
	}
}

// TestCheckHowMany holds 17.1: no set, and too many, whatever they are; as many as may be are not too many.
func TestCheckHowMany(t *testing.T) {
	for n := 1; n <= 8; n++ {
		for _, all := range [][]int{nil, {}, make([]int, 0, 5)} {
			tells(t, fmt.Sprint("no set of ", n), n, all, api.ErrNone)
		}
		for long := 1; long <= 20; long++ {
			if err := quorum.Check(n, someSets(n, long)); err != nil {
				t.Errorf("%d sets of %d: got %v", long, n, err)
			}
		}
		for _, long := range []int{21, 22, 40, 64, 1 << 16} {
			tells(t, fmt.Sprint("too many of ", n), n, someSets(n, long), api.ErrFull)
			tells(t, fmt.Sprint("too many of ", n, ", all alike"), n, slices.Repeat(list(1), long), api.ErrFull)
			for _, x := range append(outside(power(n)-1), 0) {
				tells(t, fmt.Sprint("too many of ", n, ", all bad"), n, slices.Repeat(list(x), long), api.ErrFull)
			}
		}
	}
}

// TestCheckRange holds 17.1: one that is no set, at each place, of each number of nodes.
func TestCheckRange(t *testing.T) {
	for n := 1; n <= 8; n++ {
		for _, long := range []int{1, 2, 3, 7, 20} {
			for i := range long {
				for _, x := range outside(power(n) - 1) {
					tells(t, fmt.Sprintf("set %d of %d is %d", i, long, x), n, with(someSets(n, long), i, x), api.ErrRange)
				}
			}
		}
	}
}

// TestCheckShape holds 17.1: one that has no node, at each place.
func TestCheckShape(t *testing.T) {
	for n := 1; n <= 8; n++ {
		for _, long := range []int{1, 2, 3, 7, 20} {
			for i := range long {
				tells(t, fmt.Sprintf("set %d of %d has none", i, long), n, with(someSets(n, long), i, 0), api.ErrShape)
			}
		}
	}
}

// TestCheckClash holds 17.1: two that don't meet, at any two places, and wherever else they stand.
func TestCheckClash(t *testing.T) {
	for n := 2; n <= 8; n++ {
		for long := 2; long <= 20; long += 3 {
			full := slices.Repeat(list(power(n)-1), long)
			for i := range long {
				for j := range i {
					for _, part := range []int{1, power(n - 1), power(n-1) - 1} {
						tells(t, fmt.Sprintf("sets %d and %d don't meet", j, i), n, with(with(full, j, part), i, power(n)-1-part), api.ErrClash)
					}
				}
			}
		}
	}
	for _, text := range []string{"0 1", "01 23", "012 3", "01 02 12 3", "01 12 23 13", "03 13 23 012 0123 12", "0123 4567", "0246 1357", "01 0", "07 17 27 06 0", "0 01 02 12"} {
		all := sets(text)
		if !meeting(all) {
			tells(t, text, 8, all, api.ErrClash)
		} else if err := quorum.Check(8, all); err != nil {
			t.Errorf("%s: got %v", text, err)
		}
	}
}

// TestCheckSeveral holds 17.1: of several sets what is wrong with the first that has a fault; of one set what is named first.
func TestCheckSeveral(t *testing.T) {
	for _, x := range []struct {
		n    int
		all  []int
		want api.Errno
	}{
		{3, list(0, 8), api.ErrShape},
		{3, list(8, 0), api.ErrRange},
		{3, list(-1, 0, 1, 2), api.ErrRange},
		{3, list(0, -1, 1, 2), api.ErrShape},
		{3, list(1, 2, 0, -1), api.ErrClash},
		{3, list(1, 2, -1, 0), api.ErrClash},
		{3, list(1, 0, 2, -1), api.ErrShape},
		{3, list(1, -1, 2, 0), api.ErrRange},
		{3, list(1, 3, 8, 2), api.ErrRange},
		{3, list(1, 8, 2), api.ErrRange},
		{3, list(1, 9, 2), api.ErrRange},
		{3, list(1, 0, 2), api.ErrShape},
		{3, list(0, 0), api.ErrShape},
		{3, list(8, 8), api.ErrRange},
		{3, list(8, 1), api.ErrRange},
		{3, list(4, 8), api.ErrRange},
		{3, list(7, -8), api.ErrRange},
		{3, list(7, 7, 1, 6, 0), api.ErrClash},
		{1, list(1, 2), api.ErrRange},
		{1, list(1, 0), api.ErrShape},
		{1, list(2, 1), api.ErrRange},
		{0, nil, api.ErrRange},
		{9, nil, api.ErrRange},
		{9, make([]int, 21), api.ErrRange},
		{8, nil, api.ErrNone},
		{8, make([]int, 21), api.ErrFull},
		{8, make([]int, 20), api.ErrShape},
		{8, append(slices.Repeat(list(3), 18), 4, 0), api.ErrClash},
		{8, append(slices.Repeat(list(3), 18), 0, 4), api.ErrShape},
		{8, append(slices.Repeat(list(3), 19), 256), api.ErrRange},
		{8, append(slices.Repeat(list(3), 20), 256), api.ErrFull},
	} {
		tells(t, fmt.Sprint(x.n, x.all), x.n, x.all, x.want)
	}
}

// wantCheck goes through the faults of 17.1 in its words.
func wantCheck(n int, all []int) api.Errno {
	if n < 1 || n > 8 {
		return api.ErrRange
	}
	if len(all) == 0 {
		return api.ErrNone
	}
	if len(all) > 20 {
		return api.ErrFull
	}
	for i, s := range all {
		if s < 0 || s > power(n)-1 {
			return api.ErrRange
		}
		if s == 0 {
			return api.ErrShape
		}
		for _, ahead := range all[:i] {
			if apart(ahead, s) {
				return api.ErrClash
			}
		}
	}
	return api.OK
}

// TestEveryCheck holds 17.1 at all short lists of small numbers, of few nodes, also of fewer than one.
func TestEveryCheck(t *testing.T) {
	met := map[api.Errno]int{}
	for n := -1; n <= 9; n++ {
		for long := range 5 {
			everyList(long, -1, 8, func(all []int) {
				want := wantCheck(n, all)
				met[want]++
				if err := quorum.Check(n, all); plain.Told(err) != want {
					t.Fatalf("%d %v: got %v, want %v", n, all, err, want)
				}
				if long < 3 && want != api.OK {
					tells(t, fmt.Sprint(n, all), n, all, want)
				}
			})
		}
	}
	if met[api.OK] < 1000 || met[api.ErrRange] < 1000 || met[api.ErrShape] < 1000 || met[api.ErrClash] < 1000 || met[api.ErrNone] != 8 {
		t.Errorf("met %v", met)
	}
}

// TestHasRange holds 17.1: what is asked of Has is no set, below and above, behind all that Check refuses.
func TestHasRange(t *testing.T) {
	for n := 1; n <= 8; n++ {
		for _, some := range outside(power(n) - 1) {
			for _, long := range []int{1, 2, 20} {
				tellsHas(t, "no set", n, someSets(n, long), some, api.ErrRange)
			}
			tellsHas(t, "there is none", n, nil, some, api.ErrNone)
			tellsHas(t, "too many", n, someSets(n, 21), some, api.ErrFull)
			tellsHas(t, "one has none", n, list(1, 0), some, api.ErrShape)
			if n > 1 {
				tellsHas(t, "two don't meet", n, list(1, 2), some, api.ErrClash)
			}
		}
		if is, err := quorum.Has(n, list(power(n)-1), 0); err != nil || is {
			t.Errorf("none of %d: got %v, %v", n, is, err)
		}
		if is, err := quorum.Has(n, list(power(n)-1), power(n)-1); err != nil || !is {
			t.Errorf("all of %d: got %v, %v", n, is, err)
		}
	}
}

// TestVotesHowMany holds 17.2: no weight, and too many, whatever they are and whatever is needed.
func TestVotesHowMany(t *testing.T) {
	for _, need := range append(outside(160), 0, 1, 2, 10, 160) {
		for _, weights := range [][]int{nil, {}, make([]int, 0, 5)} {
			tellsVotes(t, "no weight", weights, need, api.ErrNone)
		}
		for _, long := range []int{9, 10, 16, 63, 64, 65, 1 << 10} {
			for _, w := range append(outside(20), 0, 1, 20) {
				tellsVotes(t, "too many", slices.Repeat(list(w), long), need, api.ErrFull)
			}
		}
	}
	for long := 1; long <= 8; long++ {
		if got, err := quorum.Votes(slices.Repeat(list(20), long), 20*long); err != nil || !slices.Equal(got, list(power(long)-1)) {
			t.Errorf("%d weights: got %v, %v", long, got, err)
		}
	}
}

// TestVotesRange holds 17.2: a weight that may not be, at each place, whatever is needed.
func TestVotesRange(t *testing.T) {
	for long := 1; long <= 8; long++ {
		for i := range long {
			for _, x := range outside(20) {
				for _, need := range []int{0, 1, -1, 5, x, 8 * long, 20 * long, x + 20*(long-1), math.MinInt, math.MaxInt, math.MaxInt / 2} {
					tellsVotes(t, "one may not be", with(slices.Repeat(list(20), long), i, x), need, api.ErrRange)
				}
			}
			for w := range 21 {
				weights := with(slices.Repeat(list(20), long), i, w)
				if need := 20*(long-1) + w; need > 0 {
					holdVotes(t, weights, need)
				}
			}
		}
	}
}

// TestVotesNeed holds 17.2: how much is needed, from below 0 to more than there is, of sums that are odd and even.
func TestVotesNeed(t *testing.T) {
	for _, weights := range [][]int{{1}, {2}, {19}, {20}, {1, 0}, {0, 1}, {1, 1}, {2, 1}, {20, 20}, {1, 1, 1}, {4, 3, 2, 1}, {0, 5, 0, 6}, {3, 3, 3, 1}, {20, 20, 20, 20, 20, 20, 20, 20}, {20, 20, 20, 20, 20, 20, 20, 19}} {
		all := 0
		for _, w := range weights {
			all += w
		}
		for need := -3; need <= all+3; need++ {
			switch {
			case need < 1 || need > all:
				tellsVotes(t, "no such need", weights, need, api.ErrRange)
			case need+need <= all:
				tellsVotes(t, "not above half", weights, need, api.ErrClash)
			default:
				holdVotes(t, weights, need)
			}
		}
		for _, need := range outside(all) {
			tellsVotes(t, "no such need", weights, need, api.ErrRange)
		}
	}
	for long := 1; long <= 8; long++ {
		for _, need := range append(outside(0), 0) {
			tellsVotes(t, "nobody has any", make([]int, long), need, api.ErrRange)
		}
	}
}

// TestVotesSeveral holds 17.2: what is wrong is told in the order that it names.
func TestVotesSeveral(t *testing.T) {
	for _, x := range []struct {
		weights []int
		need    int
		want    api.Errno
	}{
		{nil, 0, api.ErrNone},
		{make([]int, 9), 0, api.ErrFull},
		{slices.Repeat(list(21), 9), 1, api.ErrFull},
		{list(21), 0, api.ErrRange},
		{list(21), 5, api.ErrRange},
		{list(-1, 1), 0, api.ErrRange},
		{list(-1, 5), 1, api.ErrRange},
		{list(5, -1), 1, api.ErrRange},
		{list(-20, 20, 20), 11, api.ErrRange},
		{list(1, 1), 0, api.ErrRange},
		{list(1, 1), 1, api.ErrClash},
		{list(1, 1), 3, api.ErrRange},
		{list(1, 1, 1), 1, api.ErrClash},
		{list(1, 1, 1), 4, api.ErrRange},
		{list(0), 0, api.ErrRange},
		{list(0), 1, api.ErrRange},
		{list(2), 1, api.ErrClash},
		{list(20), 10, api.ErrClash},
		{list(20), 11, api.OK},
		{list(19), 9, api.ErrClash},
		{list(19), 10, api.OK},
		{slices.Repeat(list(20), 8), 80, api.ErrClash},
		{slices.Repeat(list(20), 8), 81, api.OK},
		{slices.Repeat(list(20), 8), 160, api.OK},
		{slices.Repeat(list(20), 8), 161, api.ErrRange},
		{slices.Repeat(list(20), 8), math.MaxInt, api.ErrRange},
		{slices.Repeat(list(20), 8), 1<<62 + 81, api.ErrRange},
		{slices.Repeat(list(20), 8), 1<<32 + 81, api.ErrRange},
	} {
		if x.want != api.OK {
			tellsVotes(t, "several", x.weights, x.need, x.want)
		} else if got, err := quorum.Votes(x.weights, x.need); err != nil || len(got) == 0 {
			t.Errorf("%v %d: got %v, %v", x.weights, x.need, got, err)
		}
	}
}

// wantVoted goes through the faults of Votes in the words of 17.2.
func wantVoted(weights []int, need int) api.Errno {
	if len(weights) == 0 {
		return api.ErrNone
	}
	if len(weights) > 8 {
		return api.ErrFull
	}
	all := 0
	for _, w := range weights {
		if w < 0 || w > 20 {
			return api.ErrRange
		}
		all += w
	}
	if need < 1 || need > all {
		return api.ErrRange
	}
	if need*2 <= all {
		return api.ErrClash
	}
	return api.OK
}

// TestEveryVoted holds the errors of Votes of 17.2 at all short lists of small and of great numbers.
func TestEveryVoted(t *testing.T) {
	met := map[api.Errno]int{}
	for _, from := range []int{-1, 17} {
		for long := range 4 {
			everyList(long, from, from+5, func(weights []int) {
				for need := -1; need <= 66; need++ {
					want := wantVoted(weights, need)
					met[want]++
					if got, err := quorum.Votes(weights, need); plain.Told(err) != want || (got != nil) != (want == api.OK) {
						t.Fatalf("%v %d: got %v, %v, want %v", weights, need, got, err, want)
					}
				}
			})
		}
	}
	if met[api.OK] < 1000 || met[api.ErrRange] < 1000 || met[api.ErrClash] < 1000 || met[api.ErrNone] < 100 {
		t.Errorf("met %v", met)
	}
}

// TestRefusedChangesNothing holds P1: what was refused is not to be seen in what is told later.
func TestRefusedChangesNothing(t *testing.T) {
	for _, x := range allWorkedOut() {
		all := sets(x.sets)
		want := textOf(askAll(x.n, all, 1, list(4, 3, 2, 1), 6))
		for _, bad := range [][]int{nil, {0}, {-1}, append(slices.Clone(all), 0), append(slices.Clone(all), 256), slices.Repeat(all, 21)} {
			tells(t, x.name, x.n, bad, wantCheck(x.n, bad))
			tellsHas(t, x.name, x.n, all, -1, api.ErrRange)
			tellsVotes(t, x.name, list(4, 3, 2, 1), 5, api.ErrClash)
			tellsVotes(t, x.name, list(4, 3, 2, 21), 6, api.ErrRange)
			if got := textOf(askAll(x.n, all, 1, list(4, 3, 2, 1), 6)); got != want || strings.Contains(got, "Err") {
				t.Fatalf("%s, behind %v: got %s, want %s", x.name, bad, got, want)
			}
		}
	}
}
