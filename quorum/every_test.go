package quorum_test

import (
	"slices"
	"testing"

	"whenstead/plain"
	"whenstead/quorum"
)

// members of a set, the least first.
func members(s int) []int {
	var all []int
	for i := 0; s > 0; i++ {
		if s%2 == 1 {
			all = append(all, i)
		}
		s /= 2
	}
	return all
}

// common tells how many nodes are in both of two sets.
func common(a, b int) int {
	n := 0
	for _, i := range members(a) {
		if slices.Contains(members(b), i) {
			n++
		}
	}
	return n
}

// within tells whether all nodes of a set are in another one.
func within(a, b int) bool { return common(a, b) == len(members(a)) }

// apart tells whether no node is in both of two sets.
func apart(a, b int) bool { return common(a, b) == 0 }

// power is 2 so many times.
func power(n int) int {
	p := 1
	for range n {
		p *= 2
	}
	return p
}

// anyWithin tells whether any of the sets is in some nodes.
func anyWithin(all []int, some int) bool {
	for _, s := range all {
		if within(s, some) {
			return true
		}
	}
	return false
}

// anyLeft tells whether any of the sets has none of those that are gone.
func anyLeft(all []int, gone int) bool {
	for _, s := range all {
		if apart(s, gone) {
			return true
		}
	}
	return false
}

// wantLeast goes over all sets of the nodes: those that were handed in, and of which no other one that was is a part.
func wantLeast(n int, all []int) []int {
	var least []int
	for s := range power(n) {
		part := slices.ContainsFunc(all, func(other int) bool { return other != s && within(other, s) })
		if slices.Contains(all, s) && !part {
			least = append(least, s)
		}
	}
	return least
}

// wantFull goes over all sets of the nodes, the least first.
func wantFull(n int, all []int) (bool, int) {
	for some := range power(n) {
		if !anyWithin(all, some) && !anyLeft(all, some) {
			return false, some
		}
	}
	return true, 0
}

// wantLiars goes up while any two sets, or one with itself, have one node more than twice so many in common.
func wantLiars(all []int) int {
	masks := func(liars int) bool {
		for _, a := range all {
			for _, b := range all {
				if common(a, b) < 2*liars+1 {
					return false
				}
			}
		}
		return true
	}
	liars := 0
	for masks(liars + 1) {
		liars++
	}
	return liars
}

// wantFail goes up while, whichever so many are gone, one of the sets is left.
func wantFail(n int, all []int) int {
	stands := func(fail int) bool {
		for gone := range power(n) {
			if len(members(gone)) == fail && !anyLeft(all, gone) {
				return false
			}
		}
		return true
	}
	fail := 0
	for fail < n && stands(fail+1) {
		fail++
	}
	return fail
}

// wantVotes goes over all sets of the nodes, and of each that has enough over all sets that are a part of it.
func wantVotes(weights []int, need int) []int {
	enough := make([]bool, power(len(weights)))
	for s := range enough {
		sum := 0
		for _, i := range members(s) {
			sum += weights[i]
		}
		enough[s] = sum >= need
	}
	var least []int
	for s := range enough {
		spares := false
		for part := range s {
			spares = spares || enough[s] && enough[part] && within(part, s)
		}
		if enough[s] && !spares {
			least = append(least, s)
		}
	}
	return least
}

// hold what is told of sets with which nothing is wrong against the ways above.
func hold(t *testing.T, n int, all []int) (is bool, liars, fail int) {
	t.Helper()
	if err := quorum.Check(n, all); err != nil {
		t.Fatalf("Check %d %v: got %v", n, all, err)
	}
	if got, err := quorum.Least(n, all); err != nil || !slices.Equal(got, wantLeast(n, all)) {
		t.Fatalf("Least %d %v: got %v, %v, want %v", n, all, got, err, wantLeast(n, all))
	}
	want, first := wantFull(n, all)
	is, some, err := quorum.Full(n, all)
	if err != nil || is != want || some != first {
		t.Fatalf("Full %d %v: got %v, %v, %v, want %v, %v", n, all, is, some, err, want, first)
	}
	liars, fail, err = quorum.Masks(n, all)
	if err != nil || liars != wantLiars(all) || fail != wantFail(n, all) {
		t.Fatalf("Masks %d %v: got %v, %v, %v, want %v, %v", n, all, liars, fail, err, wantLiars(all), wantFail(n, all))
	}
	return is, liars, fail
}

// holdHas: of all sets of the nodes whether one of the sets is in them.
func holdHas(t *testing.T, n int, all []int) {
	t.Helper()
	for some := range power(n) {
		if is, err := quorum.Has(n, all, some); err != nil || is != anyWithin(all, some) {
			t.Fatalf("Has %d %v %d: got %v, %v", n, all, some, is, err)
		}
	}
}

// holdVotes with which nothing is wrong against the way above.
func holdVotes(t *testing.T, weights []int, need int) []int {
	t.Helper()
	want := wantVotes(weights, need)
	got, err := quorum.Votes(weights, need)
	if err != nil || !slices.Equal(got, want) {
		t.Fatalf("Votes %v %d: got %v, %v, want %v", weights, need, got, err, want)
	}
	return got
}

// meeting tells whether each two of some sets meet.
func meeting(all []int) bool {
	for i, a := range all {
		for _, b := range all[:i] {
			if apart(a, b) {
				return false
			}
		}
	}
	return true
}

// TestEverySystem holds 17.1, and Masks of 17.2, at all lists of sets of up to four nodes, each set once, the least first.
func TestEverySystem(t *testing.T) {
	met := map[string]int{}
	for n := 1; n <= 4; n++ {
		for which := 1; which < power(power(n)-1); which++ {
			var all []int
			for _, i := range members(which) {
				all = append(all, i+1)
			}
			if !meeting(all) {
				continue
			}
			met["all"]++
			is, liars, fail := hold(t, n, all)
			holdHas(t, n, all)
			if is {
				met["full"]++
			}
			if liars > 0 {
				met["liars"]++
			}
			if fail > 0 {
				met["fail"]++
			}
			backward := slices.Clone(all)
			slices.Reverse(backward)
			hold(t, n, backward)
		}
	}
	if met["all"] < 1000 || met["full"] < 100 || met["liars"] < 1 || met["fail"] < 50 {
		t.Errorf("met %v", met)
	}
}

// everyList of so many numbers from least to most.
func everyList(long, least, most int, of func(l []int)) {
	l := make([]int, long)
	var fill func(i int)
	fill = func(i int) {
		if i == long {
			of(l)
			return
		}
		for x := least; x <= most; x++ {
			l[i] = x
			fill(i + 1)
		}
	}
	fill(0)
}

// TestEveryList holds 17.1, and Masks of 17.2, at all short lists of sets, in any order, and of which some are alike.
func TestEveryList(t *testing.T) {
	held := 0
	for _, x := range []struct{ n, long int }{{1, 1}, {1, 2}, {1, 3}, {2, 1}, {2, 2}, {2, 3}, {2, 4}, {2, 5}, {3, 1}, {3, 2}, {3, 3}, {3, 4}, {4, 1}, {4, 2}, {4, 3}, {5, 1}, {5, 2}, {6, 1}, {7, 1}, {8, 1}} {
		everyList(x.long, 1, power(x.n)-1, func(all []int) {
			if meeting(all) {
				hold(t, x.n, all)
				holdHas(t, x.n, all)
				held++
			}
		})
	}
	if held < 3000 {
		t.Errorf("held %d", held)
	}
}

// TestEveryTwo holds Masks of 17.2, and Full of 17.1, at each two sets of eight nodes of which one is among the first ones: how many they have in common, and how many one has.
func TestEveryTwo(t *testing.T) {
	met := map[int]int{}
	for k := 1; k <= 8; k++ {
		for b := 1; b < 256; b += 1 + b%3 {
			if a := power(k) - 1; !apart(a, b) {
				_, liars, _ := hold(t, 8, list(a, b))
				met[liars]++
			}
		}
	}
	if met[0] < 100 || met[1] < 100 || met[2] < 10 || met[3] < 1 {
		t.Errorf("met %v", met)
	}
}

// TestEveryVotes holds Votes of 17.2 at all weights of few nodes, and at each need that may be.
func TestEveryVotes(t *testing.T) {
	met := map[int]int{}
	for _, x := range []struct{ long, most int }{{1, 20}, {2, 20}, {3, 7}, {4, 4}, {5, 2}, {6, 1}, {7, 1}, {8, 1}} {
		everyList(x.long, 0, x.most, func(weights []int) {
			all := 0
			for _, w := range weights {
				all += w
			}
			for need := all/2 + 1; need <= all; need++ {
				met[len(holdVotes(t, weights, need))]++
			}
		})
	}
	if met[0] > 0 || met[1] < 1000 || met[2] < 500 || met[3] < 300 || met[35] == 0 || met[56] == 0 {
		t.Errorf("met %v", met)
	}
}

// TestEveryVotesMeets holds 17.2: what Votes tells, may be asked of all other calls, where it isn't too much; and it is least.
func TestEveryVotesMeets(t *testing.T) {
	everyList(5, 0, 3, func(weights []int) {
		all := weights[0] + weights[1] + weights[2] + weights[3] + weights[4]
		for need := all/2 + 1; need <= all; need++ {
			least, err := quorum.Votes(weights, need)
			if err != nil {
				t.Fatalf("Votes %v %d: got %v", weights, need, err)
			}
			again, err := quorum.Least(5, least)
			if plain.Told(err) != 0 || !slices.Equal(again, least) {
				t.Fatalf("Votes %v %d: told %v, of which %v, %v is least", weights, need, least, again, err)
			}
		}
	})
}
