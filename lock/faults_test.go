package lock_test

import (
	"fmt"
	"math"
	"slices"
	"testing"

	"whenstead/api"
	"whenstead/lock"
	"whenstead/plain"
)

// played: a table at which a row of deeds was asked for, whatever it told.
func played(row []api.Deed) *lock.Table {
	x := lock.New()
	for _, d := range row {
		x.Do(d)
	}
	return x
}

// usual deeds of some transactions, on some items: such that may be asked for.
func usual(txs, items int) []api.Deed {
	var all []api.Deed
	for tx := range txs {
		for item := range items {
			for _, kind := range []int{api.Share, api.Own, api.Free, api.Do} {
				all = append(all, api.Deed{Kind: kind, Tx: tx, Item: item})
			}
			all = append(all, api.Deed{Kind: api.Do, Tx: tx, Item: item, Write: 1})
		}
	}
	return all
}

// laterOf a row: what all deeds would tell behind it, and how things would stand then, one by one.
func laterOf(row []api.Deed) string {
	s := ""
	for _, d := range usual(5, 4) {
		x := played(row)
		err := x.Do(d)
		s += fmt.Sprintln(d, plain.Told(err), stateOf(x))
	}
	return s
}

// refused: deeds that tell an error, and change nothing that can be asked, neither then nor later.
func refused(t *testing.T, row []api.Deed, want api.Errno, bad ...api.Deed) {
	t.Helper()
	x := played(row)
	before := stateOf(x)
	for _, d := range bad {
		if err := x.Do(d); plain.Told(err) != want {
			t.Errorf("%v behind %v: got %v, want %v", d, row, err, want)
		}
		if got := stateOf(x); got != before {
			t.Fatalf("%v behind %v was refused: %s became %s", d, row, before, got)
		}
	}
	if got, want := laterOf(slices.Concat(row, bad)), laterOf(row); got != want {
		t.Errorf("%v behind %v were refused: later %s became %s", bad, row, want, got)
	}
}

// outside numbers: below 0, and above the greatest that may be.
func outside(most int) []int {
	return []int{-1, -2, -most, -most - 1, -63, -64, -1 << 32, math.MinInt, math.MinInt + 1,
		most + 1, most + 2, 2*most + 1, 63, 64, 65, 1 << 32, 1<<32 + 1, 1 << 62, math.MaxInt}
}

// badDeeds: a deed of which one number is none that may be; all else of it is as it was.
func badDeeds(d api.Deed) []api.Deed {
	var all []api.Deed
	put := func(most int, set func(d *api.Deed, x int)) {
		for _, x := range outside(most) {
			bad := d
			set(&bad, x)
			all = append(all, bad)
		}
	}
	put(3, func(d *api.Deed, x int) { d.Kind = x })
	put(4, func(d *api.Deed, x int) { d.Tx = x })
	put(3, func(d *api.Deed, x int) { d.Item = x })
	if d.Kind == api.Do {
		put(1, func(d *api.Deed, x int) { d.Write = x })
	}
	return all
}

// someRows behind which nothing is locked, something is, somebody waits, freed something, or is stuck, and as many acts as may be were done.
func someRows() [][]api.Deed {
	return [][]api.Deed{
		nil,
		deeds("0s0 1s0 4o3 4w3 1r0"),
		deeds("0o0 1s0 2o0 3s1 3r1 3f1"),
		deeds("0o0 1o1 0s1 1s0 2o2 2f2"),
		deeds("0s0 1s0 2s0 3s0 4s0 0o0 1o0 2o0 3o0 4o0 2f0"),
		fullRow(1),
		fullRow(5),
	}
}

// TestRange holds 14.1: each number of a deed, below and above what may be, ahead of all else that is wrong.
func TestRange(t *testing.T) {
	for _, row := range someRows() {
		for _, d := range usual(5, 4) {
			if d.Tx%2 == 0 || d.Item%2 == 0 {
				refused(t, row, api.ErrRange, badDeeds(d)...)
			}
		}
		var all []api.Deed
		for _, x := range outside(4) {
			all = append(all, api.Deed{Kind: x, Tx: x, Item: x, Write: x})
			for kind := range 4 {
				all = append(all, api.Deed{Kind: kind, Tx: x, Item: x, Write: x}, api.Deed{Kind: kind, Tx: x, Item: x})
			}
		}
		refused(t, row, api.ErrRange, all...)
	}
}

// TestOtherKinds holds 14.1: Begin and Commit are none.
func TestOtherKinds(t *testing.T) {
	for _, row := range someRows() {
		var all []api.Deed
		for _, d := range usual(5, 4) {
			for _, kind := range []int{api.Begin, api.Commit, 6, -1} {
				d.Kind = kind
				all = append(all, d)
			}
		}
		refused(t, row, api.ErrRange, all...)
	}
}

// TestWriteNotLookedAt holds 14.1: of Share, Own and Free it may be anything.
func TestWriteNotLookedAt(t *testing.T) {
	for _, row := range someRows() {
		for _, d := range usual(5, 4) {
			if d.Kind == api.Do {
				continue
			}
			x := played(row)
			err := x.Do(d)
			want := stateOf(x)
			for _, write := range append(outside(1), 1) {
				d.Write = write
				x := played(row)
				if got := x.Do(d); plain.Told(got) != plain.Told(err) || stateOf(x) != want {
					t.Errorf("%v behind %v: got %v, %s, want %v, %s", d, row, got, stateOf(x), err, want)
				}
			}
		}
	}
}

// TestMayBe holds 14.1: all numbers that may be, may be.
func TestMayBe(t *testing.T) {
	for tx := range 5 {
		for item := range 4 {
			for _, text := range []string{"asx", "aox", "asx arx afx", "aox awx arx afx"} {
				tableOf(t, named(text, tx, 0, item, 0))
			}
		}
	}
}

// locks that a transaction may ask for, of all items.
func locks(tx int) []api.Deed {
	return named("as0 ao0 as1 ao1 as2 ao2 as3 ao3", tx, 0, 0, 0)
}

// TestState holds 14.1: who freed something locks nothing more, whatever it asks for: what nobody has, what it has itself, what it freed, and what another one has, who would else be in the way.
func TestState(t *testing.T) {
	for tx := range 5 {
		for _, text := range []string{
			"as0 af0",
			"ao3 af3",
			"as2 ao2 af2",
			"as0 ao1 as2 ao3 af2",
			"as0 bo1 bs2 bo3 af0",
			"as0 bo1 ao1 af0",
			"as0 bo1 as1 af0 bo0",
			"as0 bs0 ao0 af0 bf0",
			"as1 bs1 bo1 ao1 af1",
		} {
			refused(t, named(text, tx, (tx+2)%5, 0, 0), api.ErrState, locks(tx)...)
		}
	}
}

// TestStateOfOne holds 14.1: that one freed something keeps no other one from locking.
func TestStateOfOne(t *testing.T) {
	for tx := range 5 {
		for other := range 5 {
			if other == tx {
				continue
			}
			row := named("as0 af0", tx, 0, 0, 0)
			for _, d := range locks(other) {
				tableOf(t, append(slices.Clip(row), d))
			}
			refused(t, append(row, locks(other)...), api.ErrState, locks(tx)...)
		}
	}
}

// TestClash holds 14.1: another one's lock to write is in the way of both, one to read in that of a lock to write alone, and one's own in that of none; it waits then, and that alone is changed.
func TestClash(t *testing.T) {
	for _, x := range []struct {
		has, asks string
		want      api.Errno
	}{
		{"bsx", "asx", api.OK}, {"bsx", "aox", api.ErrClash}, {"box", "asx", api.ErrClash}, {"box", "aox", api.ErrClash},
		{"asx", "asx", api.OK}, {"asx", "aox", api.OK}, {"aox", "asx", api.OK}, {"aox", "aox", api.OK},
		{"bsy", "asx", api.OK}, {"bsy", "aox", api.OK}, {"boy", "asx", api.OK}, {"boy", "aox", api.OK},
	} {
		for tx := range 5 {
			for other := range 5 {
				for item := range 4 {
					if other != tx {
						row := named(x.has+" "+x.asks, tx, other, item, (item+1)%4)
						holdAsk(t, row[:1], row[1], x.want)
					}
				}
			}
		}
	}
}

// holdAsk: a lock that is asked for behind one deed; if it is refused, it waits for who did that, holds nothing, and freed nothing.
func holdAsk(t *testing.T, row []api.Deed, d api.Deed, want api.Errno) {
	t.Helper()
	x := tableOf(t, row)
	err := x.Do(d)
	waits := ""
	if want == api.ErrClash {
		waits = fmt.Sprintf("%d>%d", d.Tx, row[0].Tx)
	}
	if plain.Told(err) != want || stateOf(x) != "; "+waits+"; " {
		t.Errorf("%v behind %v: got %v, %s, want %v, %s", d, row, err, stateOf(x), want, waits)
	}
	if want == api.ErrClash {
		refused(t, append(slices.Clip(row), d), api.ErrNone, named("afx arx awx", d.Tx, 0, d.Item, 0)...)
		x.Do(api.Deed{Kind: api.Free, Tx: row[0].Tx, Item: d.Item})
		if err := x.Do(d); err != nil {
			t.Errorf("%v behind %v, freed: got %v", d, row, err)
		}
	}
}

// TestNone holds 14.1: nothing is freed, read or written of which there is no lock.
func TestNone(t *testing.T) {
	for _, text := range []string{
		"",
		"asx afx", "aox afx", "asx aox afx", "aox asx aox afx", "asx asx afx", "asx bsx afx", "asx bsx aox afx",
		"bsx", "box", "bsx aox", "box asx", "box aox", "box asx bfx", "bsx bfx",
		"asy", "aoy", "box aoy", "asy aoy bsx",
	} {
		for tx := range 5 {
			for item := range 4 {
				row := named(text, tx, (tx+3)%5, item, (item+1)%4)
				refused(t, row, api.ErrNone, named("afx arx awx", tx, 0, item, 0)...)
			}
		}
	}
}

// TestNoneToWrite holds 14.1: nothing is written of which there is no lock but one to read, though it may be read.
func TestNoneToWrite(t *testing.T) {
	for _, text := range []string{"asx", "asx asx", "asx aoy", "asx bsx", "asx bsx aox", "asx arx", "asx boy"} {
		for tx := range 5 {
			for item := range 4 {
				row := named(text, tx, (tx+4)%5, item, (item+3)%4)
				refused(t, row, api.ErrNone, named("awx", tx, 0, item, 0)...)
				x := played(row)
				if err := x.Do(named("arx", tx, 0, item, 0)[0]); err != nil {
					t.Errorf("reads behind %v: got %v", row, err)
				}
			}
		}
	}
}

// TestSeveral holds 14.1: of several faults the one that the chapter names first is told.
func TestSeveral(t *testing.T) {
	for _, x := range []struct {
		name string
		row  []api.Deed
		d    api.Deed
		want api.Errno
	}{
		{"no item, and freed", deeds("0s0 0f0"), api.Deed{Kind: api.Share, Item: 4}, api.ErrRange},
		{"no item, and in the way", deeds("1o0 1o1 1o2 1o3"), api.Deed{Kind: api.Own, Item: -1}, api.ErrRange},
		{"no kind, and freed", deeds("0s0 0f0"), api.Deed{Kind: -1}, api.ErrRange},
		{"no kind, and full", fullRow(1), api.Deed{Kind: 4}, api.ErrRange},
		{"no item, and no lock", nil, api.Deed{Kind: api.Free, Item: 4}, api.ErrRange},
		{"no item, and nothing locked", nil, api.Deed{Kind: api.Do, Item: 4}, api.ErrRange},
		{"no such write, and no lock", nil, api.Deed{Kind: api.Do, Write: 2}, api.ErrRange},
		{"no such write, and no lock to write", deeds("0s0"), api.Deed{Kind: api.Do, Write: 2}, api.ErrRange},
		{"no such write, and a lock", deeds("0o0"), api.Deed{Kind: api.Do, Write: -1}, api.ErrRange},
		{"no such write, and full", fullRow(1), api.Deed{Kind: api.Do, Write: -1}, api.ErrRange},
		{"no such transaction, and full", fullRow(5), api.Deed{Kind: api.Do, Tx: 5}, api.ErrRange},
		{"freed, and in the way to read", deeds("0s0 0f0 1o1"), deed("0s1"), api.ErrState},
		{"freed, and in the way to write", deeds("0s0 0f0 1s1"), deed("0o1"), api.ErrState},
		{"freed, and it waits for that", deeds("0s0 1o1 0s1 0f0"), deed("0s1"), api.ErrState},
		{"freed, and full", append(fullRow(1), deed("0f0")), deed("0s0"), api.ErrState},
		{"freed, and no lock to free", deeds("0s0 0f0"), deed("0f0"), api.ErrNone},
		{"freed, and no lock to read", deeds("0s0 0f0"), deed("0r0"), api.ErrNone},
		{"no lock, and full", fullRow(1), deed("0r2"), api.ErrNone},
		{"no lock of another one, and full", fullRow(1), deed("1r0"), api.ErrNone},
		{"no lock to write, and full", fullRow(1), deed("0w0"), api.ErrNone},
		{"freed, no lock, and full", append(fullRow(2), deed("0f3")), deed("0w3"), api.ErrNone},
		{"freed another one, and full", append(fullRow(2), deed("0f3")), deed("0r1"), api.ErrFull},
		{"full", fullRow(3), deed("2r1"), api.ErrFull},
	} {
		refused(t, x.row, x.want, x.d)
		if t.Failed() {
			t.Fatal(x.name)
		}
	}
}
