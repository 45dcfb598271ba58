package prior_test

import (
	"math/bits"
	"slices"
	"testing"

	"whenstead/api"
	"whenstead/plain"
	"whenstead/prior"
	"whenstead/sched"
)

// chance gives numbers that look as if by chance, but are the same at each run.
type chance uint

// next number below n.
func (c *chance) next(n int) int {
	*c = *c*6364136223846793005 + 1442695040888963407
	return int((uint(*c) >> 33) % uint(n))
}

// habit of a row: how many transactions and items it has, how often, of ten times, something is written, and how far, at most, a transaction is from who should be next, if all went one behind the other.
type habit struct{ txs, items, writes, strays int }

// anyHabit: in some rows transactions come more or less in order, so that few are stopped.
func (c *chance) anyHabit() habit {
	return habit{1 + c.next(5), 1 + c.next(4), c.next(11), c.next(6)}
}

// anyAct by a habit, so far into a row of so many; few have something wrong with their numbers.
func (c *chance) anyAct(h habit, i, n int) api.Act {
	if c.next(60) == 0 {
		return api.Act{Tx: c.next(9) - 2, Item: c.next(8) - 2, Write: c.next(6) - 2}
	}
	tx := i*h.txs/n + c.next(2*h.strays+1) - h.strays
	a := api.Act{Tx: 5 - h.txs + min(max(tx, 0), h.txs-1), Item: 3 - c.next(h.items)}
	if c.next(10) < h.writes {
		a.Write = 1
	}
	return a
}

// anyRow of acts.
func (c *chance) anyRow() []api.Act {
	h, row := c.anyHabit(), make([]api.Act, 5+c.next(50))
	for i := range row {
		row[i] = c.anyAct(h, i, len(row))
	}
	return row
}

// mayBe: a row without the acts whose numbers may not be.
func mayBe(row []api.Act) []api.Act {
	return slices.DeleteFunc(slices.Clone(row), func(a api.Act) bool { return sched.Check([]api.Act{a}) != nil })
}

// answers to a row of acts, one by one.
func answers(skips bool, row []api.Act) []asked {
	g, all := prior.New(skips), make([]asked, len(row))
	for i, a := range row {
		is, err := g.Do(a)
		all[i] = asked{a, is, plain.Told(err)}
	}
	return all
}

// TestMany holds 15.1 at many long rows of acts, each gate held against its past behind each of them.
func TestMany(t *testing.T) {
	for _, skips := range []bool{true, false} {
		c, met := chance(15), map[string]int{}
		for range 5000 {
			g, p := prior.New(skips), past(nil)
			for _, a := range c.anyRow() {
				p = p.with(t, g, skips, a)
				hold(t, g, p)
				met[nameOf(p[len(p)-1])]++
			}
		}
		for _, name := range []string{"OK", "ErrRange", "ErrFull", "ErrClash", "ErrState"} {
			if met[name] < 1000 {
				t.Errorf("skips %v: met %v", skips, met)
			}
		}
		if skips && met["skipped"] < 1000 {
			t.Errorf("met %v", met)
		}
	}
}

// TestManyLatest holds 15.1 against the greatest that did something, of each item, at many long rows of acts.
func TestManyLatest(t *testing.T) {
	c := chance(150)
	for range 20000 {
		row, skips, l := mayBe(c.anyRow()), c.next(2) == 0, noneYet()
		for i, got := range answers(skips, row) {
			if want := l.next(skips, row[i]); got != want {
				t.Fatalf("skips %v, %v, act %d: got %v, want %v", skips, row, i, got, want)
			}
		}
	}
}

// TestSerial holds 15.1 against chapter 13: what was done, by both kinds of gates, could have been done one behind the other as they go by their numbers; each stands behind lesser ones alone.
func TestSerial(t *testing.T) {
	c, acts, edged := chance(151), 0, 0
	for range 10000 {
		row, skips := c.anyRow(), c.next(2) == 0
		s := played(skips, row).Acts()
		is, l, err := sched.Serial(s)
		if err != nil || !is || !slices.Equal(l, []int{0, 1, 2, 3, 4}) {
			t.Fatalf("skips %v, %v: got %v, %v, %v", skips, row, is, l, err)
		}
		edges, err := sched.Edges(s)
		for tx, behind := range edges {
			if err != nil || behind&(2<<tx-1) != 0 {
				t.Fatalf("skips %v, %v: got %v, %v", skips, row, edges, err)
			}
			if behind != 0 {
				edged++
			}
		}
		acts += len(s)
	}
	if acts < 50000 || edged < 5000 {
		t.Errorf("met %d acts, and %d that others stand behind", acts, edged)
	}
}

// TestNoneNeedlessly holds 15.1 against chapter 13: with what is refused, or skipped, somebody would stand behind a greater one.
func TestNoneNeedlessly(t *testing.T) {
	c, met := chance(152), 0
	for range 10000 {
		row, skips := c.anyRow(), c.next(2) == 0
		g := prior.New(skips)
		for i, a := range row {
			before := g.Acts()
			is, err := g.Do(a)
			if is || err != nil && plain.Told(err) != api.ErrClash {
				continue
			}
			edges, bad := sched.Edges(append(before, a))
			behind := false
			for tx := a.Tx + 1; tx < len(edges); tx++ {
				behind = behind || edges[tx]>>a.Tx&1 == 1
			}
			if bad != nil || !behind {
				t.Fatalf("skips %v, %v, act %d: got %v, but %v", skips, row, i, err, edges)
			}
			met++
		}
	}
	if met < 10000 {
		t.Errorf("met %d", met)
	}
}

// oneByOne: what is done at last if acts are done one transaction behind the other, as they go by their numbers: of each act that reads which one wrote that (-1: none), and of each item which one wrote it last.
func oneByOne(row []api.Act) (reads []int, last [4]int) {
	reads, last = make([]int, len(row)), [4]int{-1, -1, -1, -1}
	for tx := range 5 {
		for i, a := range row {
			switch {
			case a.Tx == tx && a.Write == 1:
				last[a.Item], reads[i] = i, -1
			case a.Tx == tx:
				reads[i] = last[a.Item]
			}
		}
	}
	return reads, last
}

// TestSkippedAsIfDone holds 15.1: what is skipped might as well have been done, had all gone one behind the other: all read what they read, and of each item it is the same that stands there last.
func TestSkippedAsIfDone(t *testing.T) {
	c, skipped := chance(153), 0
	for range 20000 {
		var row, done []api.Act
		var places []int
		for _, e := range answers(true, c.anyRow()) {
			if e.told != api.OK {
				continue
			}
			if e.is {
				done, places = append(done, e.a), append(places, len(row))
			} else {
				skipped++
			}
			row = append(row, e.a)
		}
		found, err := sched.Reads(done)
		reads, last := oneByOne(row)
		lastDone := [4]int{-1, -1, -1, -1}
		for i, a := range done {
			if found[i] >= 0 {
				found[i] = places[found[i]]
			}
			if err != nil || found[i] != reads[places[i]] {
				t.Fatalf("%v: act %d reads %v, want %v", row, places[i], found[i], reads[places[i]])
			}
			if a.Write == 1 {
				lastDone[a.Item] = places[i]
			}
		}
		if lastDone != last {
			t.Fatalf("%v: last %v, want %v", row, lastDone, last)
		}
	}
	if skipped < 5000 {
		t.Errorf("%d were skipped", skipped)
	}
}

// TestKindsOfGates holds 15.1: both kinds of gates go alike up to the first act that is skipped; that one is refused by the other one.
func TestKindsOfGates(t *testing.T) {
	c, alike, apart := chance(154), 0, 0
	for range 10000 {
		row := c.anyRow()
		one, other := answers(true, row), answers(false, row)
		i := 0
		for i < len(row) && one[i] == other[i] {
			i++
		}
		if i == len(row) {
			alike++
			if slices.ContainsFunc(one, func(e asked) bool { return nameOf(e) == "skipped" }) {
				t.Fatalf("%v: got %v at both", row, one)
			}
			continue
		}
		apart++
		if nameOf(one[i]) != "skipped" || other[i].is || other[i].told != api.ErrClash {
			t.Fatalf("%v: got %v, but %v", row, one[i], other[i])
		}
	}
	if alike < 2000 || apart < 2000 {
		t.Errorf("met %d and %d", alike, apart)
	}
}

// TestLeftOut holds 15.1: what was skipped, and what was refused, but for what stopped somebody, might as well not have been asked for.
func TestLeftOut(t *testing.T) {
	c, left := chance(155), 0
	for range 10000 {
		row, skips := c.anyRow(), c.next(2) == 0
		var only []api.Act
		var want []asked
		for _, e := range answers(skips, row) {
			if e.is || e.told == api.ErrClash {
				only, want = append(only, e.a), append(want, e)
			} else {
				left++
			}
		}
		if got := answers(skips, only); !slices.Equal(got, want) {
			t.Fatalf("skips %v, %v: got %v, want %v", skips, only, got, want)
		}
		if got, want := stateOf(played(skips, only)), stateOf(played(skips, row)); got != want {
			t.Fatalf("skips %v, %v: got %s, want %s", skips, row, got, want)
		}
	}
	if left < 20000 {
		t.Errorf("only %d were left out", left)
	}
}

// TestGreaterAlone holds 15.1: how an act goes hangs on greater ones, and on its own, alone, until as many were done as may be.
func TestGreaterAlone(t *testing.T) {
	c, met := chance(156), 0
	for range 10000 {
		row, skips := mayBe(c.anyRow()), c.next(2) == 0
		row = row[:min(len(row), 24)]
		least := c.next(5)
		var greater []api.Act
		var want []asked
		for _, e := range answers(skips, row) {
			if e.a.Tx >= least {
				greater, want = append(greater, e.a), append(want, e)
			}
		}
		if got := answers(skips, greater); !slices.Equal(got, want) {
			t.Fatalf("skips %v, %v: got %v, want %v", skips, greater, got, want)
		}
		if len(greater) > 0 && len(greater) < len(row) {
			met++
		}
	}
	if met < 3000 {
		t.Errorf("only in %d some were left out", met)
	}
}

// TestItemsAlone holds 15.1: a gate goes as if each item had one of its own, but for who was stopped, and how many acts may be.
func TestItemsAlone(t *testing.T) {
	c, met := chance(157), [5]int{}
	for range 10000 {
		row, skips := mayBe(c.anyRow()), c.next(2) == 0
		row = row[:min(len(row), 24)]
		var gates [4]*prior.Gate
		for item := range gates {
			gates[item] = prior.New(skips)
		}
		dead := 0
		for i, got := range answers(skips, row) {
			if dead>>got.a.Tx&1 == 1 {
				if got.is || got.told != api.ErrState {
					t.Fatalf("skips %v, %v, act %d: got %v", skips, row, i, got)
				}
				continue
			}
			is, err := gates[got.a.Item].Do(got.a)
			if got.is != is || got.told != plain.Told(err) {
				t.Fatalf("skips %v, %v, act %d: got %v, want %v, %v", skips, row, i, got, is, err)
			}
			dead |= gates[got.a.Item].Dead()
		}
		if got := played(skips, row).Dead(); got != dead {
			t.Fatalf("skips %v, %v: dead %d, want %d", skips, row, got, dead)
		}
		met[bits.OnesCount(uint(dead))]++
	}
	if slices.Min(met[:]) < 100 {
		t.Errorf("so many were stopped so often: %v", met)
	}
}

// anyNames: so many out of n, each once, as they come.
func (c *chance) anyNames(many, n int) []int {
	l := make([]int, n)
	for i := range l {
		j := c.next(i + 1)
		l[i], l[j] = l[j], i
	}
	return l[:many]
}

// TestOtherNames holds 15.1: it is no matter what items are called, nor what transactions are, if the greater ones stay the greater ones.
func TestOtherNames(t *testing.T) {
	c, met := chance(158), 0
	for range 10000 {
		many := 1 + c.next(5)
		txs, items, skips := c.anyNames(many, 5), c.anyNames(4, 4), c.next(2) == 0
		slices.Sort(txs)
		row := mayBe(c.anyRow())
		renamed := make([]api.Act, len(row))
		for i := range row {
			row[i].Tx %= many
			renamed[i] = api.Act{Tx: txs[row[i].Tx], Item: items[row[i].Item], Write: row[i].Write}
		}
		want, got := answers(skips, row), answers(skips, renamed)
		for i := range row {
			if got[i].is != want[i].is || got[i].told != want[i].told {
				t.Fatalf("skips %v, %v: got %v, but of %v %v", skips, row, got[i], row[i], want[i])
			}
		}
		dead := 0
		for tx, name := range txs {
			dead |= (played(skips, row).Dead() >> tx & 1) << name
		}
		if got := played(skips, renamed).Dead(); got != dead {
			t.Fatalf("skips %v, %v: dead %d, want %d", skips, renamed, got, dead)
		}
		met += min(dead, 1)
	}
	if met < 3000 {
		t.Errorf("only in %d somebody was stopped", met)
	}
}

// TestAsTheyBegan holds 15.1: if all go one behind the other by their numbers all is done; so it is if all read; and the greatest is never refused.
func TestAsTheyBegan(t *testing.T) {
	c := chance(159)
	for range 10000 {
		row, skips := mayBe(c.anyRow()), c.next(2) == 0
		row = row[:min(len(row), 24)]
		for i, e := range answers(skips, row) {
			if e.a.Tx == 4 && !e.is {
				t.Fatalf("skips %v, %v, act %d: got %v", skips, row, i, e)
			}
		}
		sorted, reads := slices.Clone(row), slices.Clone(row)
		slices.SortStableFunc(sorted, func(a, b api.Act) int { return a.Tx - b.Tx })
		for i := range reads {
			reads[i].Write = 0
		}
		for _, all := range [][]api.Act{sorted, reads} {
			if g := played(skips, all); !slices.Equal(g.Acts(), all) || g.Dead() != 0 {
				t.Fatalf("skips %v, %v: got %s", skips, all, stateOf(g))
			}
		}
	}
}

// TestLongRow: a gate goes on as long as one likes, as what is not done takes no place.
func TestLongRow(t *testing.T) {
	g := play(t, true, "2w0 4w1 3r1! 1r2")
	for i := range 200000 {
		for _, word := range []string{"1w0", "0w0", "2w1", "3r0", "3w2"} {
			if is, _ := g.Do(act(word)); is {
				t.Fatalf("round %d: %s was done", i, word)
			}
		}
	}
	if got := stateOf(g); got != "2w0 4w1 1r2; 3" {
		t.Errorf("got %s", got)
	}
}
