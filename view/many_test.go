package view_test

import (
	"slices"
	"testing"

	"whenstead/api"
	"whenstead/extend"
	"whenstead/plain"
	"whenstead/sched"
	"whenstead/view"
)

// chance gives numbers that look as if by chance, but are the same at each run.
type chance uint

// next number below n.
func (c *chance) next(n int) int {
	*c = *c*6364136223846793005 + 1442695040888963407
	return int((uint(*c) >> 33) % uint(n))
}

// habit of a row: how many transactions and items it has, how often, of ten times, something is written, how many things, at most, one does until it commits, and how many are open at the same time.
type habit struct{ txs, items, writes, long, open int }

// anyHabit: in most rows there are many of them, and more is read than written, so that not too many are stopped.
func (c *chance) anyHabit() habit {
	return habit{min(2+c.next(7), 5), min(1+c.next(6), 4), 1 + c.next(6), 1 + c.next(7), min(1+c.next(8), 5)}
}

// strayDeed: anything, also with something wrong with its numbers.
func (c *chance) strayDeed() api.Deed {
	if c.next(3) > 0 {
		return api.Deed{Kind: api.Do + c.next(3), Tx: c.next(5), Item: c.next(4), Write: c.next(2)}
	}
	return api.Deed{Kind: c.next(9) - 1, Tx: c.next(8) - 1, Item: c.next(8) - 2, Write: c.next(6) - 2}
}

// life of a transaction: it begins, does something, and commits; few do not.
func (c *chance) life(h habit, tx int) []api.Deed {
	row := []api.Deed{{Kind: api.Begin, Tx: tx}}
	for range c.next(h.long + 1) {
		d := api.Deed{Kind: api.Do, Tx: tx, Item: 3 - c.next(h.items)}
		if c.next(10) < h.writes {
			d.Write = 1
		}
		row = append(row, d)
	}
	if c.next(12) > 0 {
		row = append(row, api.Deed{Kind: api.Commit, Tx: tx})
	}
	return row
}

// anyRow of deeds: lives put into one row, with few strays between.
func (c *chance) anyRow() []api.Deed {
	h := c.anyHabit()
	var lives [][]api.Deed
	for _, tx := range c.anyNames(5)[:h.txs] {
		lives = append(lives, c.life(h, tx))
	}
	var row []api.Deed
	for len(lives) > 0 {
		i := c.next(min(h.open, len(lives)))
		row = append(row, lives[i][0])
		lives[i] = lives[i][1:]
		if len(lives[i]) == 0 {
			lives = slices.Delete(lives, i, i+1)
		}
		for c.next(12) == 0 {
			row = append(row, c.strayDeed())
		}
	}
	return row
}

// anyNames: all of n, each once, as they come.
func (c *chance) anyNames(n int) []int {
	l := make([]int, n)
	for i := range l {
		j := c.next(i + 1)
		l[i], l[j] = l[j], i
	}
	return l
}

// answers to a row of deeds, one by one.
func answers(row []api.Deed) []asked {
	s, all := view.New(), make([]asked, len(row))
	for i, d := range row {
		told, err := s.Do(d)
		all[i] = asked{d, told, plain.Told(err)}
	}
	return all
}

// well: of a row of deeds those that were done well, and what was told of them.
func well(row []api.Deed) (only []api.Deed, told []asked) {
	for _, e := range answers(row) {
		if e.wrong == api.OK {
			only, told = append(only, e.d), append(told, e)
		}
	}
	return only, told
}

// TestMany holds 16.1 to 16.3 at many long rows of deeds, each store held against its past behind each of them.
func TestMany(t *testing.T) {
	c, m := chance(16), newMet()
	for range 10000 {
		s, p := view.New(), past(nil)
		for _, d := range c.anyRow() {
			p = p.with(t, s, d, m)
			if e := p[len(p)-1]; e.d.Kind != api.Do {
				hold(t, s, p, m)
			}
		}
		hold(t, s, p, m)
	}
	m.some(t, 500, "done", "own", "another's", "nobody's", "ErrRange", "ErrState", "ErrClash")
}

// asSchedule: what those did that committed, as a schedule in which each reads all at its Begin, and writes all at its Commit; each item once.
func asSchedule(told []asked) []api.Act {
	p := past(told)
	var all []api.Act
	for _, e := range told {
		for item := range 4 {
			switch {
			case e.d.Kind == api.Begin && p.ended(e.d.Tx) >= 0 && p.readOthers(e.d.Tx, item):
				all = append(all, api.Act{Tx: e.d.Tx, Item: item})
			case e.d.Kind == api.Commit && p.wrote(e.d.Tx, item):
				all = append(all, api.Act{Tx: e.d.Tx, Item: item, Write: 1})
			}
		}
	}
	return all
}

// TestAsSchedule holds 16.2 and 16.3 against chapter 13: all goes as if each read at its Begin, and wrote at its Commit; but who wrote what somebody wrote that is not next to it is not told.
func TestAsSchedule(t *testing.T) {
	c, left, many := chance(160), 0, 0
	for range 20000 {
		_, told := well(c.anyRow())
		p, acts := past(told), asSchedule(told)
		if len(acts) > 24 {
			continue
		}
		many++
		s := p.replayed()
		want, err := sched.Edges(acts)
		got, _ := s.Edges()
		for i := range 5 {
			for j := range 5 {
				all := want[i]>>j&1 == 1
				if all && got[i]>>j&1 == 0 {
					left++
					all = !onlyWrote(p, i, j)
				}
				if err != nil || got[i]>>j&1 == 1 != all {
					t.Fatalf("%v: got %v, want %v", acts, got, want)
				}
			}
		}
		is, row, err := sched.Serial(acts)
		if isSo, l := s.Serial(); err != nil || isSo != is || !slices.Equal(l, row) {
			t.Fatalf("%v: got %v, %v, want %v, %v", acts, isSo, l, is, row)
		}
	}
	if left < 100 || many < 5000 {
		t.Errorf("met %d of %d", left, many)
	}
}

// onlyWrote tells whether two have nothing in common but items that both wrote, and others between them.
func onlyWrote(p past, one, behind int) bool {
	for item := range 4 {
		if p.readOthers(one, item) && p.wrote(behind, item) || p.wrote(one, item) && p.readOthers(behind, item) || p.isNext(one, behind, item) {
			return false
		}
	}
	return true
}

// TestAsToldInRow holds 16.3: had those that committed been one behind the other, as the row has them, each would have read what it read, and the same would stand at last.
func TestAsToldInRow(t *testing.T) {
	c, met := chance(161), 0
	for range 20000 {
		_, told := well(c.anyRow())
		p := past(told)
		is, row := p.replayed().Serial()
		if !is {
			continue
		}
		last, want := [4]int{-1, -1, -1, -1}, [4]int{-1, -1, -1, -1}
		for _, tx := range row {
			for _, e := range told {
				switch {
				case p.ended(tx) < 0 || e.d.Tx != tx || e.d.Kind != api.Do:
				case e.d.Write == 1:
					last[e.d.Item] = tx
				case e.told != last[e.d.Item]:
					t.Fatalf("%v, %v: %d reads %d, want %d", told, row, tx, last[e.d.Item], e.told)
				default:
					met++
				}
			}
		}
		for _, e := range told {
			for item := range 4 {
				if e.d.Kind == api.Commit && p.wrote(e.d.Tx, item) {
					want[item] = e.d.Tx
				}
			}
		}
		if last != want {
			t.Fatalf("%v, %v: last %v, want %v", told, row, last, want)
		}
	}
	if met < 20000 {
		t.Errorf("met %d", met)
	}
}

// TestNoDanger holds 16.3, and what is to be true of the whole: where there is no danger there is a row.
func TestNoDanger(t *testing.T) {
	c, met := chance(162), map[[2]bool]int{}
	for range 30000 {
		s := played(c.anyRow())
		is, _ := s.Serial()
		danger := s.Danger()
		if !is && !danger {
			t.Fatalf("%s", stateOf(s))
		}
		met[[2]bool{is, danger}]++
	}
	if met[[2]bool{true, true}] < 300 || met[[2]bool{true, false}] < 300 || met[[2]bool{false, true}] < 300 {
		t.Errorf("met %v", met)
	}
}

// TestShapeOfEdges holds 16.2: all is of, and to, what is committed, never to itself; who is over is behind, too, and was open at the same time; and who is behind another one stands against it only if that read what this wrote over.
func TestShapeOfEdges(t *testing.T) {
	c := chance(163)
	for range 20000 {
		_, told := well(c.anyRow())
		p := past(told)
		s := p.replayed()
		behind, over := s.Edges()
		for i := range 5 {
			for j := range 5 {
				is, both := behind[i]>>j&1 == 1, over[i]>>j&1 == 1
				if is && (i == j || s.Committed()>>i&1 == 0 || s.Committed()>>j&1 == 0) {
					t.Fatalf("%v: %s", told, stateOf(s))
				}
				if both && (!is || p.began(i) > p.ended(j) || p.began(j) > p.ended(i)) {
					t.Fatalf("%v: %s", told, stateOf(s))
				}
				if is && !both && p.ended(i) > p.began(j) && p.ended(j) > p.began(i) {
					t.Fatalf("%v: %s", told, stateOf(s))
				}
				if is && !both && p.ended(i) > p.ended(j) {
					t.Fatalf("%v: %s", told, stateOf(s))
				}
			}
		}
	}
}

// TestLeftOut holds 16.1 to 16.3: what was refused might as well not have been asked for; nor, as far as others can tell, what one did who never committed.
func TestLeftOut(t *testing.T) {
	c, left, gone := chance(164), 0, 0
	for range 10000 {
		row := c.anyRow()
		only, want := well(row)
		left += len(row) - len(only)
		if got := answers(only); !slices.Equal(got, want) {
			t.Fatalf("%v: got %v, want %v", row, got, want)
		}
		if got, want := stateOf(played(only)), stateOf(played(row)); got != want {
			t.Fatalf("%v: got %s, want %s", row, got, want)
		}
		ended := func(e asked) bool { return past(want).ended(e.d.Tx) >= 0 }
		var committed []api.Deed
		var told []asked
		for _, e := range want {
			if ended(e) {
				committed, told = append(committed, e.d), append(told, e)
			} else {
				gone++
			}
		}
		if got := answers(committed); !slices.Equal(got, told) {
			t.Fatalf("%v: got %v, want %v", committed, got, told)
		}
		if got, want := stateOf(played(committed)), stateOf(played(row)); got != want {
			t.Fatalf("%v: got %s, want %s", row, got, want)
		}
	}
	if left < 10000 || gone < 10000 {
		t.Errorf("only %d and %d were left out", left, gone)
	}
}

// mayChange tells whether two deeds that stand next to each other may change places, and nothing else changes: of two transactions, unless one commits while the other one begins or commits.
func mayChange(a, b api.Deed) bool {
	return a.Tx != b.Tx && (a.Kind != api.Commit || b.Kind == api.Do) && (b.Kind != api.Commit || a.Kind == api.Do)
}

// TestChangePlaces holds 16.1 to 16.3: it hangs on nothing but what each did in order, and on who began, and committed, ahead of whose Commit.
func TestChangePlaces(t *testing.T) {
	c, changed := chance(165), 0
	for range 5000 {
		row, told := well(c.anyRow())
		want := stateOf(played(row))
		for range 100 {
			if i := c.next(max(len(row), 2)) - 1; i >= 0 && i+1 < len(row) && mayChange(row[i], row[i+1]) {
				row[i], row[i+1] = row[i+1], row[i]
				told[i], told[i+1] = told[i+1], told[i]
				changed++
			}
		}
		if got := answers(row); !slices.Equal(got, told) {
			t.Fatalf("%v: got %v, want %v", row, got, told)
		}
		if got := stateOf(played(row)); got != want {
			t.Fatalf("%v: got %s, want %s", row, got, want)
		}
	}
	if changed < 50000 {
		t.Errorf("%d changed places", changed)
	}
}

// TestSeesTheSame holds 16.1: what one reads is the same all the time until it writes it, and then it is its own.
func TestSeesTheSame(t *testing.T) {
	c, met := chance(166), 0
	for range 10000 {
		_, told := well(c.anyRow())
		saw := map[[2]int]int{}
		for i, e := range told {
			key := [2]int{e.d.Tx, e.d.Item}
			if e.d.Kind != api.Do {
				continue
			}
			if e.d.Write == 1 {
				saw[key] = e.d.Tx
				continue
			}
			if was, ok := saw[key]; ok && was != e.told {
				t.Fatalf("%v, deed %d: got %d, was %d", told, i, e.told, was)
			} else if ok {
				met++
			}
			saw[key] = e.told
		}
	}
	if met < 10000 {
		t.Errorf("met %d", met)
	}
}

// TestFirstCommits holds 16.1: of two that were open at the same time, and wrote the same, one at most commits; and nobody is stopped who has no such one.
func TestFirstCommits(t *testing.T) {
	c, stopped, both := chance(167), 0, 0
	for range 10000 {
		told := answers(c.anyRow())
		p := past(told)
		for i, e := range told {
			if e.d.Kind != api.Commit || e.wrong != api.OK && e.wrong != api.ErrClash {
				continue
			}
			met := false
			for tx := range 5 {
				for item := range 4 {
					if ended := p.ended(tx); tx != e.d.Tx && ended >= 0 && ended < i && ended > p.began(e.d.Tx) && p.wrote(tx, item) && p.wrote(e.d.Tx, item) {
						met = true
					}
				}
			}
			if met != (e.wrong == api.ErrClash) {
				t.Fatalf("%v, deed %d: got %v", told, i, e.wrong)
			}
			if met {
				stopped++
			} else {
				both++
			}
		}
	}
	if stopped < 2000 || both < 2000 {
		t.Errorf("met %d and %d", stopped, both)
	}
}

// named: a set by other names.
func named(s int, names []int) int {
	all := 0
	for i, name := range names {
		all |= (s >> i & 1) << name
	}
	return all
}

// TestOtherNames holds 16.1 to 16.3: it is no matter what transactions and items are called, but for which row is the least.
func TestOtherNames(t *testing.T) {
	c := chance(168)
	for range 10000 {
		row, told := well(c.anyRow())
		txs, items := c.anyNames(5), c.anyNames(4)
		renamed := slices.Clone(row)
		for i, d := range row {
			renamed[i].Tx = txs[d.Tx]
			if d.Kind == api.Do {
				renamed[i].Item = items[d.Item]
			}
		}
		for i, got := range answers(renamed) {
			want := told[i].told
			if want >= 0 {
				want = txs[want]
			}
			if got.told != want || got.wrong != api.OK {
				t.Fatalf("%v: got %v, but of %v %v", row, got, row[i], told[i])
			}
		}
		s, other := played(row), played(renamed)
		behind, over := s.Edges()
		otherBehind, otherOver := other.Edges()
		for i, name := range txs {
			if otherBehind[name] != named(behind[i], txs) || otherOver[name] != named(over[i], txs) {
				t.Fatalf("%v: %s, %s", row, stateOf(s), stateOf(other))
			}
		}
		is, _ := s.Serial()
		otherIs, _ := other.Serial()
		if other.Committed() != named(s.Committed(), txs) || otherIs != is || other.Danger() != s.Danger() {
			t.Fatalf("%v: %s, %s", row, stateOf(s), stateOf(other))
		}
	}
}

// TestFirstRow holds 16.3 against chapter 3: the row is a row of what must come behind what, and the first one.
func TestFirstRow(t *testing.T) {
	c, met := chance(169), 0
	for range 20000 {
		s := played(c.anyRow())
		behind, _ := s.Edges()
		is, row := s.Serial()
		first, err := extend.First(behind)
		if is != (err == nil) || !slices.Equal(row, first) {
			t.Fatalf("%s: want %v, %v", stateOf(s), first, err)
		}
		if is && !slices.IsSorted(row) {
			met++
		}
	}
	if met < 3000 {
		t.Errorf("met %d", met)
	}
}

// TestOneBehindTheOther holds 16.1 to 16.3: if each begins only when all others are through, all is as it is in that row, nobody is stopped, and nobody is over anybody.
func TestOneBehindTheOther(t *testing.T) {
	c := chance(170)
	for range 5000 {
		row, names := c.anyRow(), c.anyNames(5)
		var all []api.Deed
		last := [4]int{-1, -1, -1, -1}
		for _, tx := range names {
			all = append(all, api.Deed{Kind: api.Begin, Tx: tx})
			for _, d := range row {
				if d.Kind == api.Do && d.Tx == tx && d.Item >= 0 && d.Item < 4 && (d.Write == 0 || d.Write == 1) {
					all = append(all, d)
				}
			}
			all = append(all, api.Deed{Kind: api.Commit, Tx: tx})
		}
		for i, e := range answers(all) {
			want := -1
			if reads(e.d) {
				want = last[e.d.Item]
			} else if e.d.Kind == api.Do {
				last[e.d.Item] = e.d.Tx
			}
			if e.told != want || e.wrong != api.OK {
				t.Fatalf("%v, deed %d: got %v, want %d", all, i, e, want)
			}
		}
		s := played(all)
		behind, over := s.Edges()
		for k, tx := range names {
			ahead := 0
			for _, other := range names[:k+1] {
				ahead |= 1 << other
			}
			if behind[tx]&ahead != 0 || over[tx] != 0 {
				t.Fatalf("%v: %s", all, stateOf(s))
			}
		}
		if is, _ := s.Serial(); !is || s.Committed() != 31 || s.Danger() {
			t.Fatalf("%v: %s", all, stateOf(s))
		}
	}
}

// TestLongRow: a transaction goes on as long as one likes, and it is the same.
func TestLongRow(t *testing.T) {
	s := play(t, "2b 2w0 2w1 2c 0b 3b 1b 1w0 1c")
	for i := range 200000 {
		for _, word := range []string{"0r0=2", "0w2", "0r2=0", "3r1=2", "0r3=-", "2r0?", "2w0?", "4c?", "3b?", "0w3", "3w1", "3w3"} {
			if word == "0r3=-" && i > 0 || word == "3r1=2" && i > 0 {
				continue
			}
			d := deed(word)
			told, err := s.Do(d)
			if got := wordOf(d) + markOf(d, told, err); got != word {
				t.Fatalf("round %d: got %s, want %s", i, got, word)
			}
		}
	}
	if got := answersOf(s, deeds("0c 3c")); got != "{5 0 0 0} -1 OK {5 3 0 0} 0 ErrClash 012; 0~1 2>0 2>1; 20134" {
		t.Errorf("got %s", got)
	}
}
