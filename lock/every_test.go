package lock_test

import (
	"slices"
	"testing"

	"whenstead/api"
	"whenstead/lock"
	"whenstead/plain"
)

// asked is a deed that was asked for, and what is to be told of it.
type asked struct {
	d    api.Deed
	told api.Errno
}

// past of a table: all that was ever asked for, which is gone over each time.
type past []asked

// holds tells whether a transaction holds a lock of a kind: it got it, and freed nothing of the item since.
func (p past) holds(kind, tx, item int) bool {
	has := false
	for _, e := range p {
		if e.told == api.OK && e.d.Tx == tx && e.d.Item == item {
			has = e.d.Kind == kind || has && e.d.Kind != api.Free
		}
	}
	return has
}

// inTheWay tells whether one is in the way of a lock that another one asks for.
func (p past) inTheWay(one int, d api.Deed) bool {
	if one == d.Tx {
		return false
	}
	return p.holds(api.Own, one, d.Item) || d.Kind == api.Own && p.holds(api.Share, one, d.Item)
}

// freed tells whether a transaction freed something.
func (p past) freed(tx int) bool {
	return slices.ContainsFunc(p, func(e asked) bool { return e.told == api.OK && e.d.Kind == api.Free && e.d.Tx == tx })
}

// waits tells for which lock a transaction waits: the last one that it asked for, and got or waited for, if it did not get it.
func (p past) waits(tx int) (d api.Deed, is bool) {
	for _, e := range p {
		if e.d.Tx == tx && (e.d.Kind == api.Share || e.d.Kind == api.Own) && (e.told == api.OK || e.told == api.ErrClash) {
			d, is = e.d, e.told == api.ErrClash
		}
	}
	return d, is
}

// acts that were done.
func (p past) acts() []api.Act {
	var all []api.Act
	for _, e := range p {
		if e.told == api.OK && e.d.Kind == api.Do {
			all = append(all, api.Act{Tx: e.d.Tx, Item: e.d.Item, Write: e.d.Write})
		}
	}
	return all
}

// wrong tells what chapter 14 says first is wrong with a deed.
func (p past) wrong(d api.Deed) api.Errno {
	if d.Kind < 0 || d.Kind > 3 || d.Tx < 0 || d.Tx > 4 || d.Item < 0 || d.Item > 3 {
		return api.ErrRange
	}
	owns, shares := p.holds(api.Own, d.Tx, d.Item), p.holds(api.Share, d.Tx, d.Item)
	switch d.Kind {
	case api.Free:
		if !owns && !shares {
			return api.ErrNone
		}
		return api.OK
	case api.Do:
		switch {
		case d.Write != 0 && d.Write != 1:
			return api.ErrRange
		case d.Write == 1 && !owns, d.Write == 0 && !owns && !shares:
			return api.ErrNone
		case len(p.acts()) == 24:
			return api.ErrFull
		}
		return api.OK
	}
	if p.freed(d.Tx) {
		return api.ErrState
	}
	for one := range 5 {
		if p.inTheWay(one, d) {
			return api.ErrClash
		}
	}
	return api.OK
}

// whom: of each two transactions whether one waits for the other.
type whom [5][5]bool

// whom all wait for.
func (p past) whom() (all whom) {
	for tx := range 5 {
		d, is := p.waits(tx)
		for one := range 5 {
			all[tx][one] = is && p.inTheWay(one, d)
		}
	}
	return all
}

// sets of those for whom each waits.
func (w whom) sets() []int {
	all := make([]int, 5)
	for tx := range 5 {
		for one := range 5 {
			if w[tx][one] {
				all[tx] += 1 << one
			}
		}
	}
	return all
}

// leads tells whether somebody waits for another one, over others that are none of some, too; each way is gone.
func (w whom) leads(from, to int, none [5]bool) bool {
	for one := range 5 {
		if !w[from][one] || none[one] {
			continue
		}
		behind := none
		behind[one] = true
		if one == to || w.leads(one, to, behind) {
			return true
		}
	}
	return false
}

// stuck: those from whom a way leads back.
func (w whom) stuck() int {
	all := 0
	for tx := range 5 {
		if w.leads(tx, tx, [5]bool{}) {
			all += 1 << tx
		}
	}
	return all
}

// with a deed: the past behind it; the table is to tell the same of it.
func (p past) with(t *testing.T, x *lock.Table, d api.Deed) past {
	t.Helper()
	want := p.wrong(d)
	if err := x.Do(d); plain.Told(err) != want {
		t.Fatalf("%v behind %v: got %v, want %v", d, p, err, want)
	}
	return append(slices.Clip(p), asked{d, want})
}

// replayed: a table at which all was asked for that a past has.
func (p past) replayed() *lock.Table {
	x := lock.New()
	for _, e := range p {
		x.Do(e.d)
	}
	return x
}

// hold a table against its past.
func hold(t *testing.T, x *lock.Table, p past) {
	t.Helper()
	if got, want := x.Acts(), p.acts(); !slices.Equal(got, want) {
		t.Fatalf("behind %v: acts %v, want %v", p, got, want)
	}
	w := p.whom()
	if got, want := x.Waits(), w.sets(); !slices.Equal(got, want) {
		t.Fatalf("behind %v: waits %v, want %v", p, got, want)
	}
	if got, want := x.Stuck(), w.stuck(); got != want {
		t.Fatalf("behind %v: stuck %d, want %d", p, got, want)
	}
}

// everyRow of deeds, up to so many more; each table is held against its past.
func everyRow(t *testing.T, some []api.Deed, many int, p past, met map[string]int) {
	for _, d := range some {
		x := p.replayed()
		q := p.with(t, x, d)
		hold(t, x, q)
		met[q[len(q)-1].told.Error()]++
		if x.Stuck() != 0 {
			met["stuck"]++
		}
		if many > 1 {
			everyRow(t, some, many-1, q, met)
		}
	}
}

// onlyLocks: deeds without those that read or write.
func onlyLocks(some []api.Deed) []api.Deed {
	return slices.DeleteFunc(some, func(d api.Deed) bool { return d.Kind == api.Do })
}

// everyNumber that a deed may have, and the next ones.
func everyNumber() []api.Deed {
	var all []api.Deed
	for kind := -1; kind <= 6; kind++ {
		for tx := -1; tx <= 5; tx++ {
			for item := -1; item <= 4; item++ {
				for write := -1; write <= 2; write++ {
					all = append(all, api.Deed{Kind: kind, Tx: tx, Item: item, Write: write})
				}
			}
		}
	}
	return all
}

// TestEveryNumber holds 14.1 and 14.2 at all deeds with all that may be wrong with them, at first and behind each that may be.
func TestEveryNumber(t *testing.T) {
	met := map[string]int{}
	everyRow(t, everyNumber(), 1, nil, met)
	for _, d := range usual(5, 4) {
		x := lock.New()
		everyRow(t, everyNumber(), 1, past(nil).with(t, x, d), met)
	}
	if met["OK"] < 1000 || met["ErrRange"] < 1000 || met["ErrClash"] < 900 || met["ErrNone"] < 1000 {
		t.Errorf("met %v", met)
	}
}

// TestEveryRow holds 14.1 and 14.2 at all short rows of deeds, of fewer and fewer transactions and items.
func TestEveryRow(t *testing.T) {
	met := map[string]int{}
	for _, x := range []struct{ long, txs, items int }{{2, 5, 4}, {3, 4, 2}, {3, 3, 3}, {4, 3, 1}, {4, 2, 2}, {6, 2, 1}, {8, 1, 1}} {
		everyRow(t, usual(x.txs, x.items), x.long, nil, met)
	}
	for _, x := range []struct{ long, txs, items int }{{3, 5, 2}, {4, 4, 1}, {4, 3, 2}, {5, 3, 1}, {5, 2, 2}, {7, 2, 1}} {
		everyRow(t, onlyLocks(usual(x.txs, x.items)), x.long, nil, met)
	}
	for _, name := range []string{"OK", "ErrClash", "ErrState", "ErrNone", "stuck"} {
		if met[name] < 1000 {
			t.Errorf("met %v", met)
		}
	}
}

// everyHolding: all ways in which some transactions may hold locks of some items, each by the deeds that lead there; also those by which one has both locks.
func everyHolding(txs, items int, row []api.Deed, of func(row []api.Deed)) {
	if items == 0 {
		of(row)
		return
	}
	item := items - 1
	for tx := range txs {
		everyHolding(txs, item, append(slices.Clip(row), named("aox", tx, 0, item, 0)...), of)
	}
	for s := range 1 << txs {
		readers := slices.Clip(row)
		for tx := range txs {
			if s>>tx&1 == 1 {
				readers = append(readers, named("asx", tx, 0, item, 0)...)
			}
		}
		everyHolding(txs, item, readers, of)
	}
}

// everyAsking: behind a past each of some transactions, one by one, asks for each lock, or for none.
func everyAsking(t *testing.T, tx, items int, p past, of func(p past)) {
	if tx < 0 {
		of(p)
		return
	}
	everyAsking(t, tx-1, items, p, of)
	for item := range items {
		for _, kind := range []int{api.Share, api.Own} {
			d := api.Deed{Kind: kind, Tx: tx, Item: item}
			if p.wrong(d) == api.ErrClash {
				everyAsking(t, tx-1, items, append(slices.Clip(p), asked{d, api.ErrClash}), of)
			}
		}
	}
}

// TestEveryWaiting holds 14.2 at all ways in which few transactions may hold locks, and wait for others.
func TestEveryWaiting(t *testing.T) {
	met := map[int]int{}
	for _, x := range []struct{ txs, items int }{{2, 4}, {3, 3}, {4, 2}, {5, 2}} {
		everyHolding(x.txs, x.items, nil, func(row []api.Deed) {
			var p past
			for _, d := range row {
				p = append(p, asked{d, api.OK})
			}
			everyAsking(t, x.txs-1, x.items, p, func(p past) {
				y := lock.New()
				for i, e := range p {
					if err := y.Do(e.d); plain.Told(err) != e.told {
						t.Fatalf("%v, deed %d: got %v", p, i, err)
					}
				}
				hold(t, y, p)
				met[y.Stuck()]++
			})
		})
	}
	// All sets may be stuck but those of one alone.
	if len(met) != 32-5 {
		t.Errorf("met %v", met)
	}
}
