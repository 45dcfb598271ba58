package quorum_test

import (
	"slices"
	"testing"

	"whenstead/api"
	"whenstead/plain"
	"whenstead/quorum"
)

// chance gives numbers that look as if by chance, but are the same at each run.
type chance uint

// next number below n.
func (c *chance) next(n int) int {
	*c = *c*6364136223846793005 + 1442695040888963407
	return int((uint(*c) >> 33) % uint(n))
}

// anyRow of so many, each once.
func (c *chance) anyRow(n int) []int {
	l := make([]int, n)
	for i := range l {
		j := c.next(i + 1)
		l[i], l[j] = l[j], i
	}
	return l
}

// anySet of n nodes: few nodes or many, but some.
func (c *chance) anySet(n int) int {
	s, most := 0, 1+c.next(n)
	for range most {
		s |= power(c.next(n))
	}
	return s
}

// anySystem of n nodes: some sets each of which meets all that were drawn ahead; some of them more than once.
func (c *chance) anySystem(n int) []int {
	all, long := list(c.anySet(n)), 1+c.next(api.MaxSets)
	for range 500 {
		s := c.anySet(n)
		if c.next(10) == 0 {
			s = all[c.next(len(all))]
		}
		if len(all) < long && meeting(append(slices.Clone(all), s)) {
			all = append(all, s)
		}
	}
	return all
}

// anyVotes: weights and how much is needed; of some the sets are as many as may be asked for, or fewer.
func (c *chance) anyVotes(n int) (weights []int, need int) {
	most := 1 + c.next(api.MaxWeight)
	all := 0
	for range n {
		w := c.next(most + 1)
		all += w
		weights = append(weights, w)
	}
	if all == 0 {
		weights[0], all = 1, 1
	}
	return weights, all/2 + 1 + c.next(all-all/2)
}

// anySets of n nodes with which nothing is wrong: drawn one by one, or by votes, in any order.
func (c *chance) anySets(n int) []int {
	all := c.anySystem(n)
	if c.next(2) == 0 {
		weights, need := c.anyVotes(n)
		if least := wantVotes(weights, need); len(least) <= api.MaxSets {
			all = least
		}
	}
	drawn := make([]int, len(all))
	for i, j := range c.anyRow(len(all)) {
		drawn[i] = all[j]
	}
	return drawn
}

// TestMany holds 17.1, and Masks of 17.2, at many systems of all numbers of nodes, short and long.
func TestMany(t *testing.T) {
	c, met := chance(17), map[string]int{}
	for range 1500 {
		n := 1 + c.next(8)
		all := c.anySets(n)
		is, liars, fail := hold(t, n, all)
		holdHas(t, n, all)
		if is && n > 4 {
			met["full"]++
		}
		if !is && n > 4 {
			met["not full"]++
		}
		if len(all) == api.MaxSets {
			met["as many as may be"]++
		}
		if liars > 0 && len(wantLeast(n, all)) > 1 {
			met["liars"]++
		}
		if fail > 0 && n > 4 {
			met["fail"]++
		}
	}
	for _, name := range []string{"full", "not full", "as many as may be", "liars", "fail"} {
		if met[name] < 30 {
			t.Errorf("met %v", met)
			break
		}
	}
}

// TestManyVotes holds Votes of 17.2 at many weights of all numbers of nodes.
func TestManyVotes(t *testing.T) {
	c, met := chance(172), map[string]int{}
	for range 4000 {
		n := 1 + c.next(8)
		weights, need := c.anyVotes(n)
		least := holdVotes(t, weights, need)
		if slices.Contains(weights, 0) {
			met["no weight"]++
		}
		if len(least) > api.MaxSets {
			met["many"]++
		}
		for _, s := range least {
			for _, i := range members(s) {
				if weights[i] == 0 {
					t.Fatalf("%v %d: %d has no weight, and is in %d", weights, need, i, s)
				}
			}
		}
		if len(least) <= api.MaxSets {
			holdVoted(t, n, weights, need, least)
		}
	}
	if met["no weight"] < 100 || met["many"] < 30 {
		t.Errorf("met %v", met)
	}
}

// holdVoted: what Votes tells may be asked of all other calls; it is least; and where just more than half of an odd sum is needed, it is full.
func holdVoted(t *testing.T, n int, weights []int, need int, voted []int) {
	t.Helper()
	all := 0
	for _, w := range weights {
		all += w
	}
	if least, err := quorum.Least(n, voted); err != nil || !slices.Equal(least, voted) {
		t.Fatalf("%v %d: told %v, of which %v, %v is least", weights, need, voted, least, err)
	}
	if is, some, err := quorum.Full(n, voted); err != nil || 2*need == all+1 && (!is || some != 0) {
		t.Fatalf("%v %d: told %v, but Full is %v, %v, %v", weights, need, voted, is, some, err)
	}
	for some := range power(n) {
		sum := 0
		for _, i := range members(some) {
			sum += weights[i]
		}
		if is, err := quorum.Has(n, voted, some); err != nil || is != (sum >= need) {
			t.Fatalf("%v %d: %d has %d, but Has is %v, %v", weights, need, some, sum, is, err)
		}
	}
}

// meetsEach tells whether some nodes may be laid beside each of the sets.
func meetsEach(n int, all []int, some int) bool {
	for _, s := range all {
		if plain.Told(quorum.Check(n, list(s, some))) != api.OK {
			return false
		}
	}
	return true
}

// TestNotBettered holds 17.1, and what is to be true of the whole: where all is full, each set of nodes that meets all sets has one of them; where it is not, the nodes of which neither side has one meet all, and may be laid beside them.
func TestNotBettered(t *testing.T) {
	c, met := chance(171), map[bool]int{}
	for range 800 {
		n := 1 + c.next(8)
		all := c.anySets(n)
		is, first, err := quorum.Full(n, all)
		if err != nil {
			t.Fatalf("Full %d %v: got %v", n, all, err)
		}
		met[is]++
		if !is && first >= power(n-1) {
			t.Fatalf("Full %d %v: got %d, but all others are less", n, all, first)
		}
		for some := 1; some < power(n); some++ {
			meets := meetsEach(n, all, some)
			has, err := quorum.Has(n, all, some)
			switch {
			case err != nil || is && meets != has:
				t.Fatalf("%d %v: full, but %d: meets %v, has %v, %v", n, all, some, meets, has, err)
			case some == first && (!meets || has):
				t.Fatalf("%d %v: not full by %d: meets %v, has %v", n, all, some, meets, has)
			case !is && some < first && meets && !has:
				t.Fatalf("%d %v: not full by %d, but so it is by %d", n, all, first, some)
			}
		}
	}
	if met[true] < 100 || met[false] < 100 {
		t.Errorf("met %v", met)
	}
}

// renamed sets: each node by a row.
func renamed(all, by []int) []int {
	other := make([]int, len(all))
	for k, s := range all {
		for _, i := range members(s) {
			other[k] += power(by[i])
		}
	}
	return other
}

// TestRenamed holds 17.1 and 17.2: by whatever names the nodes go, the same is told of them, by those names.
func TestRenamed(t *testing.T) {
	c := chance(1717)
	for range 500 {
		n := 1 + c.next(8)
		all, by := c.anySets(n), c.anyRow(n)
		other := renamed(all, by)
		least, err1 := quorum.Least(n, all)
		otherLeast, err2 := quorum.Least(n, other)
		want := renamed(least, by)
		slices.Sort(want)
		if err1 != nil || err2 != nil || !slices.Equal(otherLeast, want) {
			t.Fatalf("Least %d %v by %v: got %v, %v, %v, want %v", n, all, by, otherLeast, err1, err2, want)
		}
		liars, fail, err1 := quorum.Masks(n, all)
		otherLiars, otherFail, err2 := quorum.Masks(n, other)
		if err1 != nil || err2 != nil || liars != otherLiars || fail != otherFail {
			t.Fatalf("Masks %d %v by %v: got %v, %v, %v, %v, %v, %v", n, all, by, liars, fail, otherLiars, otherFail, err1, err2)
		}
		is, _, err1 := quorum.Full(n, all)
		otherIs, _, err2 := quorum.Full(n, other)
		if err1 != nil || err2 != nil || is != otherIs {
			t.Fatalf("Full %d %v by %v: got %v, %v, %v, %v", n, all, by, is, otherIs, err1, err2)
		}
		weights, need := c.anyVotes(n)
		otherWeights := make([]int, n)
		for i, w := range weights {
			otherWeights[by[i]] = w
		}
		want = renamed(wantVotes(weights, need), by)
		slices.Sort(want)
		if got, err := quorum.Votes(otherWeights, need); err != nil || !slices.Equal(got, want) {
			t.Fatalf("Votes %v %d by %v: got %v, %v, want %v", weights, need, by, got, err, want)
		}
	}
}

// holdAlike: of two lists of sets of n and m nodes the same is told.
func holdAlike(t *testing.T, n int, all []int, m int, other []int) {
	t.Helper()
	least, err1 := quorum.Least(n, all)
	otherLeast, err2 := quorum.Least(m, other)
	if err1 != nil || err2 != nil || !slices.Equal(least, otherLeast) {
		t.Fatalf("Least %d %v, %d %v: got %v, %v, %v, %v", n, all, m, other, least, otherLeast, err1, err2)
	}
	is, some, err1 := quorum.Full(n, all)
	otherIs, otherSome, err2 := quorum.Full(m, other)
	if err1 != nil || err2 != nil || is != otherIs || some != otherSome {
		t.Fatalf("Full %d %v, %d %v: got %v, %v, %v, %v, %v, %v", n, all, m, other, is, some, otherIs, otherSome, err1, err2)
	}
	liars, fail, err1 := quorum.Masks(n, all)
	otherLiars, otherFail, err2 := quorum.Masks(m, other)
	if err1 != nil || err2 != nil || liars != otherLiars || fail != otherFail {
		t.Fatalf("Masks %d %v, %d %v: got %v, %v, %v, %v, %v, %v", n, all, m, other, liars, fail, otherLiars, otherFail, err1, err2)
	}
	for s := range power(n) {
		has, err1 := quorum.Has(n, all, s)
		otherHas, err2 := quorum.Has(m, other, s)
		if err1 != nil || err2 != nil || has != otherHas {
			t.Fatalf("Has %d %v, %d %v, %d: got %v, %v, %v, %v", n, all, m, other, s, has, otherHas, err1, err2)
		}
	}
}

// TestLeastIsEnough holds 17.1 and 17.2: sets in which another one is tell nothing that the least ones don't; nor does it tell how often they come and in which order, nor whether there is a node more that is in none.
func TestLeastIsEnough(t *testing.T) {
	c := chance(17171)
	for range 500 {
		n := 1 + c.next(7)
		all := c.anySets(n)
		least, err := quorum.Least(n, all)
		if err != nil || len(least) == 0 {
			t.Fatalf("Least %d %v: got %v, %v", n, all, least, err)
		}
		holdAlike(t, n, all, n, least)
		holdAlike(t, n, all, n+1, all)
		more := slices.Clone(least)
		for len(more) < api.MaxSets {
			more = append(more, least[c.next(len(least))]|c.next(power(n)))
		}
		slices.Reverse(more)
		holdAlike(t, n, all, n, more)
	}
}

// TestMasksBetween holds Masks of 17.2: with so many gone a set is left, but not always with one more; and with so many liars the honest ones of what any two sets have in common are more than they, but not always with one more.
func TestMasksBetween(t *testing.T) {
	c := chance(171717)
	for range 500 {
		n := 1 + c.next(8)
		all := c.anySets(n)
		liars, fail, err := quorum.Masks(n, all)
		if err != nil {
			t.Fatalf("Masks %d %v: got %v", n, all, err)
		}
		fewest := n
		for _, a := range all {
			for _, b := range all {
				fewest = min(fewest, common(a, b))
			}
		}
		if fewest-liars <= liars || fewest-(liars+1) > liars+1 {
			t.Fatalf("Masks %d %v: got %d liars, with %d in common", n, all, liars, fewest)
		}
		stopped := false
		for gone := range power(n) {
			is, err := quorum.Has(n, all, power(n)-1-gone)
			if err != nil || len(members(gone)) <= fail && !is {
				t.Fatalf("Masks %d %v: %d may fail, but with %d gone %v, %v", n, all, fail, gone, is, err)
			}
			stopped = stopped || len(members(gone)) == fail+1 && !is
		}
		if !stopped {
			t.Fatalf("Masks %d %v: %d may fail, but so may one more", n, all, fail)
		}
	}
}
