package lock_test

import (
	"math/bits"
	"slices"
	"testing"

	"whenstead/api"
	"whenstead/extend"
	"whenstead/lock"
	"whenstead/order"
	"whenstead/plain"
	"whenstead/sched"
)

// chance gives numbers that look as if by chance, but are the same at each run.
type chance uint

// next number below n.
func (c *chance) next(n int) int {
	*c = *c*6364136223846793005 + 1442695040888963407
	return int((uint(*c) >> 33) % uint(n))
}

// habit of a row: how many transactions and items it has, and how often, of twenty times, something is freed, or locked; else it is read or written.
type habit struct{ txs, items, frees, locks int }

// anyHabit: some have no transaction that frees anything.
func (c *chance) anyHabit() habit {
	return habit{1 + c.next(5), 1 + c.next(4), c.next(3), 4 + c.next(14)}
}

// anyDeed by a habit; few have something wrong with their numbers.
func (c *chance) anyDeed(h habit) api.Deed {
	d := api.Deed{Kind: api.Do, Tx: 4 - c.next(h.txs), Item: 3 - c.next(h.items), Write: c.next(2)}
	switch x := c.next(20); {
	case x < h.frees:
		d.Kind = api.Free
	case x < h.frees+h.locks:
		d.Kind = c.next(2)
	}
	if c.next(50) == 0 {
		d = api.Deed{Kind: c.next(9) - 2, Tx: c.next(9) - 2, Item: c.next(8) - 2, Write: c.next(6) - 2}
	}
	return d
}

// TestMany holds 14.1 and 14.2 at many long rows of deeds, each table held against its past behind each of them.
func TestMany(t *testing.T) {
	c, met, stuck := chance(14), map[api.Errno]int{}, [6]int{}
	for range 6000 {
		h, x, p := c.anyHabit(), lock.New(), past(nil)
		for range 10 + c.next(90) {
			p = p.with(t, x, c.anyDeed(h))
			met[p[len(p)-1].told]++
			hold(t, x, p)
			stuck[bits.OnesCount(uint(x.Stuck()))]++
		}
	}
	for _, e := range []api.Errno{api.OK, api.ErrRange, api.ErrFull, api.ErrNone, api.ErrClash, api.ErrState} {
		if met[e] < 1000 {
			t.Errorf("met %v", met)
		}
	}
	if stuck[1] != 0 || min(stuck[0], stuck[2], stuck[3], stuck[4], stuck[5]) < 100 {
		t.Errorf("so many were stuck so often: %v", stuck)
	}
}

// busyTable: a table behind a long row of deeds, and the row.
func (c *chance) busyTable() (*lock.Table, []api.Deed) {
	h := c.anyHabit()
	row := make([]api.Deed, 10+c.next(90))
	for i := range row {
		row[i] = c.anyDeed(h)
	}
	return played(row), row
}

// TestSerial holds 14.1 and 14.2 against chapter 13: two phases keep transactions apart, so that all that was done could have been done one transaction behind the other.
func TestSerial(t *testing.T) {
	c, others, acts := chance(140), 0, 0
	for range 5000 {
		x, row := c.busyTable()
		s := x.Acts()
		is, l, err := sched.Serial(s)
		if err != nil || !is {
			t.Fatalf("%v behind %v: got %v, %v", s, row, is, err)
		}
		acts += len(s)
		if !slices.IsSorted(l) {
			others++
		}
	}
	if others < 100 || acts < 30000 {
		t.Errorf("met %d other rows than the first, and %d acts", others, acts)
	}
}

// holdFreedFirst: of two transactions that may not change places the one ahead freed something ahead of the act of the one behind.
func holdFreedFirst(t *testing.T, row []api.Deed) {
	t.Helper()
	x, freed := lock.New(), 0
	for i, d := range row {
		err := x.Do(d)
		if err == nil && d.Kind == api.Free {
			freed |= 1 << d.Tx
		}
		edges, bad := sched.Edges(x.Acts())
		if bad != nil {
			t.Fatalf("%v: got %v", row[:i+1], bad)
		}
		for tx, behind := range edges {
			if behind != 0 && freed>>tx&1 == 0 {
				t.Fatalf("%v: others stand behind %d, which freed nothing yet", row[:i+1], tx)
			}
		}
	}
}

// TestFreedFirst holds 14.1 against chapter 13: nobody stands behind one who freed nothing yet.
func TestFreedFirst(t *testing.T) {
	c := chance(141)
	for range 1000 {
		_, row := c.busyTable()
		holdFreedFirst(t, row)
	}
}

// TestOrder holds 14.2 against chapters 1 and 3: who waits for whom is an order just if nobody is stuck, and then all may go on, one behind the other.
func TestOrder(t *testing.T) {
	c, met := chance(142), map[api.Errno]int{}
	for range 20000 {
		x, row := c.busyTable()
		waits, stuck := x.Waits(), x.Stuck()
		got := plain.Told(order.Check(waits))
		met[got]++
		if got != api.OK && got != api.ErrClash || (got == api.OK) != (stuck == 0) {
			t.Fatalf("behind %v: %v is %v, but %d are stuck", row, waits, got, stuck)
		}
		// Without those that are stuck it is an order; and each of them waits for another one of them, and is waited for.
		rest, waited := slices.Clone(waits), 0
		for tx := range rest {
			if stuck>>tx&1 == 1 {
				waited |= waits[tx]
				if waits[tx]&stuck == 0 {
					t.Fatalf("behind %v: %d is stuck, but waits for %d", row, tx, waits[tx])
				}
				rest[tx] = 0
			}
		}
		if stuck&^waited != 0 {
			t.Fatalf("behind %v: of %d only %d are waited for", row, stuck, waited)
		}
		if _, err := extend.First(rest); err != nil {
			t.Fatalf("behind %v: without %d there is no row of %v: %v", row, stuck, waits, err)
		}
	}
	if met[api.OK] < 2000 || met[api.ErrClash] < 2000 {
		t.Errorf("met %v", met)
	}
}

// mayTouch: which of all transactions may read an item, or write it, behind a row of deeds.
func mayTouch(row []api.Deed, item, write int) int {
	all := 0
	for tx := range 5 {
		err := played(row).Do(api.Deed{Kind: api.Do, Tx: tx, Item: item, Write: write})
		if e := plain.Told(err); e == api.OK || e == api.ErrFull {
			all |= 1 << tx
		}
	}
	return all
}

// TestApart holds 14.1: who may write an item is the only one that may touch it; and nobody waits for what nobody holds.
func TestApart(t *testing.T) {
	c, owned, shared := chance(143), 0, 0
	for range 2000 {
		x, row := c.busyTable()
		held := 0
		for item := range 4 {
			readers, writers := mayTouch(row, item, 0), mayTouch(row, item, 1)
			if writers != 0 {
				owned++
				if readers != writers || bits.OnesCount(uint(writers)) != 1 {
					t.Fatalf("behind %v: %d may write item %d, and %d read it", row, writers, item, readers)
				}
			} else if bits.OnesCount(uint(readers)) > 1 {
				shared++
			}
			held |= readers
		}
		for tx, s := range x.Waits() {
			if s&^held != 0 || s>>tx&1 == 1 {
				t.Fatalf("behind %v: %d waits for %d, but only %d hold anything", row, tx, s, held)
			}
		}
	}
	if owned < 300 || shared < 300 {
		t.Errorf("met %d that are owned, and %d that are shared", owned, shared)
	}
}

// anyNames: so many, each once.
func (c *chance) anyNames(n int) []int {
	l := make([]int, n)
	for i := range l {
		j := c.next(i + 1)
		l[i], l[j] = l[j], i
	}
	return l
}

// renamed: a set in which each has another name.
func renamed(s int, names []int) int {
	all := 0
	for i, name := range names {
		all |= (s >> i & 1) << name
	}
	return all
}

// TestOtherNames holds 14.1 and 14.2: what is told hangs on what the transactions do, not on their names, nor on those of the items.
func TestOtherNames(t *testing.T) {
	c := chance(144)
	for range 3000 {
		h, txs, items := c.anyHabit(), c.anyNames(5), c.anyNames(4)
		x, y := lock.New(), lock.New()
		for range 10 + c.next(60) {
			d := c.anyDeed(h)
			if past(nil).wrong(d) == api.ErrRange {
				continue
			}
			e := d
			e.Tx, e.Item = txs[d.Tx], items[d.Item]
			if got, want := plain.Told(y.Do(e)), plain.Told(x.Do(d)); got != want {
				t.Fatalf("%v: got %v, but of %v %v", e, got, d, want)
			}
		}
		for tx, s := range x.Waits() {
			if got := y.Waits()[txs[tx]]; got != renamed(s, txs) {
				t.Fatalf("%d waits for %d, but %d for %d", tx, s, txs[tx], got)
			}
		}
		if got := y.Stuck(); got != renamed(x.Stuck(), txs) {
			t.Fatalf("%d are stuck, but %d", x.Stuck(), got)
		}
		acts := x.Acts()
		for i := range acts {
			acts[i].Tx, acts[i].Item = txs[acts[i].Tx], items[acts[i].Item]
		}
		if got := y.Acts(); !slices.Equal(got, acts) {
			t.Fatalf("got %v, want %v", got, acts)
		}
	}
}

// TestRefusedLeftOut holds 14.1: what was refused, but for locks that others were in the way of, might as well not have been asked for.
func TestRefusedLeftOut(t *testing.T) {
	c, left := chance(145), 0
	for range 3000 {
		x, row := c.busyTable()
		y, only := lock.New(), lock.New()
		for _, d := range row {
			if e := plain.Told(y.Do(d)); e == api.OK || e == api.ErrClash {
				only.Do(d)
			} else {
				left++
			}
		}
		if got, want := stateOf(only), stateOf(x); got != want {
			t.Fatalf("%v: got %s, want %s", row, got, want)
		}
	}
	if left < 10000 {
		t.Errorf("only %d were left out", left)
	}
}

// TestLongRow: a table goes on as long as one likes.
func TestLongRow(t *testing.T) {
	x := tableOf(t, deeds("0s0 1s0 2o1"))
	for i := range 200000 {
		for _, word := range []string{"0s0", "1o0", "0s1", "1s0", "0s2", "0r3"} {
			x.Do(deed(word))
		}
		if i%100000 == 0 && stateOf(x) != "; ; " {
			t.Fatalf("round %d: got %s", i, stateOf(x))
		}
	}
	if x.Do(deed("1o0")); stateOf(x) != "; 1>0; " {
		t.Errorf("got %s", stateOf(x))
	}
}
