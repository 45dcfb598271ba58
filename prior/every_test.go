package prior_test

import (
	"slices"
	"testing"

	"whenstead/api"
	"whenstead/plain"
	"whenstead/prior"
)

// asked is an act that was asked for, and what is to be told of it.
type asked struct {
	a    api.Act
	is   bool
	told api.Errno
}

// past of a gate: all that was ever asked for, which is gone over each time.
type past []asked

// done: what was done, in order.
func (p past) done() []api.Act {
	var all []api.Act
	for _, e := range p {
		if e.is {
			all = append(all, e.a)
		}
	}
	return all
}

// stopped tells whether a transaction was.
func (p past) stopped(tx int) bool {
	return slices.ContainsFunc(p, func(e asked) bool { return e.told == api.ErrClash && e.a.Tx == tx })
}

// dead: all that were stopped, as bits.
func (p past) dead() int {
	all := 0
	for tx := range 5 {
		if p.stopped(tx) {
			all += 1 << tx
		}
	}
	return all
}

// next: what is to be told of an act behind a past; by what chapter 15 says, one by one.
func (p past) next(skips bool, a api.Act) asked {
	if a.Tx < 0 || a.Tx > 4 || a.Item < 0 || a.Item > 3 || a.Write != 0 && a.Write != 1 {
		return asked{a, false, api.ErrRange}
	}
	if p.stopped(a.Tx) {
		return asked{a, false, api.ErrState}
	}
	done := p.done()
	if len(done) == 24 {
		return asked{a, false, api.ErrFull}
	}
	readsWritten, writesRead, writesWritten := false, false, false
	for _, b := range done {
		if b.Item == a.Item && b.Tx > a.Tx {
			readsWritten = readsWritten || a.Write == 0 && b.Write == 1
			writesRead = writesRead || a.Write == 1 && b.Write == 0
			writesWritten = writesWritten || a.Write == 1 && b.Write == 1
		}
	}
	if readsWritten || writesRead || !skips && writesWritten {
		return asked{a, false, api.ErrClash}
	}
	return asked{a, !writesWritten, api.OK}
}

// latest of each item: the greatest that read it, and that wrote it (-1: none), by which it is told, too, how an act goes; with who was stopped, and how many acts were done.
type latest struct {
	read, wrote [4]int
	dead        [5]bool
	done        int
}

// noneYet did anything.
func noneYet() *latest {
	none := [4]int{-1, -1, -1, -1}
	return &latest{read: none, wrote: none}
}

// next: what is told of an act whose numbers may be.
func (l *latest) next(skips bool, a api.Act) asked {
	read, wrote := l.read[a.Item] <= a.Tx, l.wrote[a.Item] <= a.Tx
	e := asked{a, false, api.OK}
	switch {
	case l.dead[a.Tx]:
		e.told = api.ErrState
	case l.done == 24:
		e.told = api.ErrFull
	case a.Write == 0 && wrote:
		e.is = true
		l.read[a.Item] = max(l.read[a.Item], a.Tx)
	case a.Write == 1 && read && wrote:
		e.is = true
		l.wrote[a.Item] = max(l.wrote[a.Item], a.Tx)
	case a.Write == 1 && read && skips:
		// Nothing is done.
	default:
		e.told = api.ErrClash
		l.dead[a.Tx] = true
	}
	if e.is {
		l.done++
	}
	return e
}

// with an act: the past behind it; the gate is to tell the same of it.
func (p past) with(t *testing.T, g *prior.Gate, skips bool, a api.Act) past {
	t.Helper()
	want := p.next(skips, a)
	if is, err := g.Do(a); is != want.is || plain.Told(err) != want.told {
		t.Fatalf("skips %v, %v behind %v: got %v, %v, want %v, %v", skips, a, p, is, err, want.is, want.told)
	}
	return append(slices.Clip(p), want)
}

// hold a gate against its past.
func hold(t *testing.T, g *prior.Gate, p past) {
	t.Helper()
	if got, want := g.Acts(), p.done(); !slices.Equal(got, want) {
		t.Fatalf("behind %v: acts %v, want %v", p, got, want)
	}
	if got, want := g.Dead(), p.dead(); got != want {
		t.Fatalf("behind %v: dead %d, want %d", p, got, want)
	}
}

// replayed: a gate at which all was asked for that a past has.
func (p past) replayed(skips bool) *prior.Gate {
	g := prior.New(skips)
	for _, e := range p {
		g.Do(e.a)
	}
	return g
}

// everyRow of acts, up to so many more; each gate is held against its past.
func everyRow(t *testing.T, skips bool, some []api.Act, many int, p past, met map[string]int) {
	for _, a := range some {
		g := p.replayed(skips)
		q := p.with(t, g, skips, a)
		hold(t, g, q)
		met[nameOf(q[len(q)-1])]++
		if many > 1 {
			everyRow(t, skips, some, many-1, q, met)
		}
	}
}

// nameOf what was told.
func nameOf(e asked) string {
	if e.told == api.OK && !e.is {
		return "skipped"
	}
	return e.told.Error()
}

// everyNumber that an act may have, and the next ones.
func everyNumber() []api.Act {
	var all []api.Act
	for tx := -1; tx <= 5; tx++ {
		for item := -1; item <= 4; item++ {
			for write := -1; write <= 2; write++ {
				all = append(all, api.Act{Tx: tx, Item: item, Write: write})
			}
		}
	}
	return all
}

// TestEveryNumber holds 15.1 at all acts with all that may be wrong with them, at first, and behind one or two of those that may be.
func TestEveryNumber(t *testing.T) {
	met := map[string]int{}
	for _, skips := range []bool{true, false} {
		everyRow(t, skips, everyNumber(), 1, nil, met)
		for _, a := range usual(5, 4) {
			g := prior.New(skips)
			p := past(nil).with(t, g, skips, a)
			everyRow(t, skips, everyNumber(), 1, p, met)
			for _, b := range usual(5, 4) {
				everyRow(t, skips, everyNumber(), 1, p.with(t, p.replayed(skips), skips, b), met)
			}
		}
	}
	for _, name := range []string{"OK", "ErrRange", "ErrClash", "ErrState", "skipped"} {
		if met[name] < 1000 {
			t.Errorf("met %v", met)
		}
	}
}

// TestEveryRow holds 15.1 at all short rows of acts, of fewer and fewer transactions and items, at both kinds of gates.
func TestEveryRow(t *testing.T) {
	for _, skips := range []bool{true, false} {
		met := map[string]int{}
		for _, x := range []struct{ long, txs, items int }{{2, 5, 4}, {3, 5, 2}, {3, 4, 4}, {4, 5, 1}, {4, 3, 2}, {5, 4, 1}, {5, 2, 2}, {6, 3, 1}, {8, 2, 1}, {12, 1, 1}} {
			everyRow(t, skips, usual(x.txs, x.items), x.long, nil, met)
		}
		for _, name := range []string{"OK", "ErrClash", "ErrState"} {
			if met[name] < 1000 {
				t.Errorf("skips %v: met %v", skips, met)
			}
		}
		if (met["skipped"] > 1000) != skips || (met["skipped"] > 0) != skips {
			t.Errorf("skips %v: met %v", skips, met)
		}
	}
}

// TestEveryFull holds 15.1 behind all two acts of one item, and so many more that as many were done as may be, or a few less.
func TestEveryFull(t *testing.T) {
	met := map[string]int{}
	for _, skips := range []bool{true, false} {
		for _, a := range usual(5, 1) {
			for _, b := range usual(5, 1) {
				for many := 20; many <= 24; many++ {
					g, p := prior.New(skips), past(nil)
					for _, x := range slices.Concat([]api.Act{a, b}, slices.Repeat(acts("4r3"), many)) {
						p = p.with(t, g, skips, x)
					}
					everyRow(t, skips, usual(5, 2), 2, p, met)
				}
			}
		}
	}
	for _, name := range []string{"OK", "ErrFull", "ErrClash", "ErrState", "skipped"} {
		if met[name] < 1000 {
			t.Errorf("met %v", met)
		}
	}
}

// fill a row of acts by numbers, of which each digit is one.
func fill(row []api.Act, some []api.Act, n int) {
	for i := range row {
		row[i] = some[n%len(some)]
		n /= len(some)
	}
}

// TestEveryLatest holds 15.1 against the greatest that did something, of each item, at all rows of up to five acts of one item, and of three of all.
func TestEveryLatest(t *testing.T) {
	for _, x := range []struct{ long, txs, items, rows int }{{5, 5, 1, 100000}, {3, 5, 4, 64000}, {4, 4, 2, 65536}} {
		some, row := usual(x.txs, x.items), make([]api.Act, x.long)
		for n := range x.rows {
			fill(row, some, n)
			for _, skips := range []bool{true, false} {
				g, l := prior.New(skips), noneYet()
				for i, a := range row {
					want := l.next(skips, a)
					if is, err := g.Do(a); is != want.is || plain.Told(err) != want.told {
						t.Fatalf("skips %v, %v, act %d: got %v, %v, want %v, %v", skips, row, i, is, err, want.is, want.told)
					}
				}
			}
		}
	}
}
