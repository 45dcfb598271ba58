package view_test

import (
	"fmt"
	"math"
	"slices"
	"strings"
	"testing"

	"whenstead/api"
	"whenstead/plain"
	"whenstead/view"
)

// played: a store of which a row of deeds was asked, whatever it told.
func played(row []api.Deed) *view.Store {
	s := view.New()
	for _, d := range row {
		s.Do(d)
	}
	return s
}

// usual deeds of some transactions, on some items.
func usual(txs, items int) []api.Deed {
	var all []api.Deed
	for tx := range txs {
		all = append(all, api.Deed{Kind: api.Begin, Tx: tx}, api.Deed{Kind: api.Commit, Tx: tx})
		for item := range items {
			all = append(all, api.Deed{Kind: api.Do, Tx: tx, Item: item}, api.Deed{Kind: api.Do, Tx: tx, Item: item, Write: 1})
		}
	}
	return all
}

// answersOf a store to a row of deeds, and how things stand behind it.
func answersOf(s *view.Store, row []api.Deed) string {
	text := ""
	for _, d := range row {
		told, err := s.Do(d)
		text += fmt.Sprint(d, told, plain.Told(err), " ")
	}
	return text + stateOf(s)
}

// laterRows: what may be asked of a store later, so that all shows that it keeps.
func laterRows() [][]api.Deed {
	var all [][]api.Deed
	for tx := range 5 {
		row := deeds(fmt.Sprintf("%dr0 %dr1 %dr2 %dr3 %dc", tx, tx, tx, tx, tx))
		for item := range 4 {
			all = append(all, slices.Concat(deeds(fmt.Sprintf("%dw%d", tx, item)), row))
		}
		all = append(all, row, deeds(fmt.Sprintf("%dc", tx)), deeds(fmt.Sprintf("%db %dr0 %dr1 %dr2 %dr3 %dc", tx, tx, tx, tx, tx, tx)))
	}
	return append(all, deeds("0b 1b 2b 3b 4b 0r0 1r1 2r2 3r3 4r0 4r3 0w3 1w2 2w1 3w0 3c 4c 0c 2c 1c"), deeds("4c 3c 2c 1c 0c"), deeds("0c 1c 2c 3c 4c"))
}

// holdLater: behind a row, with some more, all goes as it goes without these.
func holdLater(t *testing.T, row, more []api.Deed) {
	t.Helper()
	for _, later := range laterRows() {
		got, want := answersOf(played(slices.Concat(row, more)), later), answersOf(played(row), later)
		if got != want {
			t.Fatalf("behind %v, and behind %v: %s became %s", row, more, want, got)
		}
	}
}

// refused: deeds of which this is told, and nothing else, and that change nothing that can be asked, neither then nor later.
func refused(t *testing.T, row []api.Deed, want api.Errno, some ...api.Deed) {
	t.Helper()
	s := played(row)
	before := stateOf(s)
	for _, d := range some {
		if told, err := s.Do(d); told != 0 || plain.Told(err) != want {
			t.Errorf("%v behind %v: got %d, %v, want %v", d, row, told, err, want)
		}
	}
	if got := stateOf(s); got != before {
		t.Fatalf("behind %v: %s became %s", row, before, got)
	}
	holdLater(t, row, some)
}

// outside numbers: below 0, and above the greatest that may be.
func outside(most int) []int {
	return []int{-1, -2, -most, -most - 1, -63, -64, -1 << 32, math.MinInt, math.MinInt + 1,
		most + 1, most + 2, 2*most + 1, 63, 64, 65, 1 << 32, 1<<32 + 1, 1 << 62, math.MaxInt}
}

// badKinds: such as are from Share to Free, too.
func badKinds() []int { return append(outside(5), api.Share, api.Own, api.Free) }

// badDeeds: a deed of which one number is none that may be; all else of it is as it was.
func badDeeds(d api.Deed) []api.Deed {
	var all []api.Deed
	for _, x := range badKinds() {
		all = append(all, api.Deed{Kind: x, Tx: d.Tx, Item: d.Item, Write: d.Write})
	}
	for _, x := range outside(4) {
		all = append(all, api.Deed{Kind: d.Kind, Tx: x, Item: d.Item, Write: d.Write})
	}
	if d.Kind != api.Do {
		return all
	}
	for _, x := range outside(3) {
		all = append(all, api.Deed{Kind: d.Kind, Tx: d.Tx, Item: x, Write: d.Write})
	}
	for _, x := range outside(1) {
		all = append(all, api.Deed{Kind: d.Kind, Tx: d.Tx, Item: d.Item, Write: x})
	}
	return all
}

// someRows behind which nothing was done, some are open, some committed, some were stopped, and all are done.
func someRows() [][]api.Deed {
	return [][]api.Deed{
		nil,
		deeds("0b 1b 2b 3b 4b"),
		deeds("0b 0r0 1b 1w0 1c 4b 4r3"),
		deeds("4b 4w0 3b 3r0 3w1 4c 2b 2r0 2w0 2c 1b 1r1 1w0"),
		deeds("2b 0b 2w3 0w3 0c 2c 3b 3r3 1b 1r1 1w2 3w0"),
		deeds("0b 1b 0r0 1r1 0w1 1w0 0c 1c 2b 2r0 2r1 2r2"),
		deeds("0b 1b 2b 3b 4b 0w0 1w0 2w0 3w0 4w0 4c 3c 2c 1c 0c"),
		deeds("0b 0w0 0w1 0c 1b 1r0 1w1 1c 2b 2r1 2r0 3b 3w1 3c 4b 4w0 4r3 4c 2c"),
	}
}

// TestRange holds 16.1: each number of a deed, below and above what may be, ahead of all else that is wrong.
func TestRange(t *testing.T) {
	for _, row := range someRows() {
		var all []api.Deed
		for _, d := range usual(5, 4) {
			all = append(all, badDeeds(d)...)
		}
		refused(t, row, api.ErrRange, all...)
		all = nil
		for _, x := range outside(5) {
			all = append(all, api.Deed{Kind: x, Tx: x, Item: x, Write: x}, api.Deed{Kind: api.Do, Tx: x, Item: x, Write: x}, api.Deed{Kind: api.Do, Item: x, Write: x}, api.Deed{Kind: api.Begin, Tx: x, Item: x, Write: x}, api.Deed{Kind: api.Commit, Tx: x, Item: x}, api.Deed{Kind: x})
		}
		refused(t, row, api.ErrRange, all...)
	}
}

// TestMayBe holds 16.1: all numbers that may be, may be.
func TestMayBe(t *testing.T) {
	for tx := range 5 {
		for item := range 4 {
			play(t, namedText("Ab ArX=- AwX ArX=A Ac", tx, 0, 0, item, 0))
		}
	}
}

// TestBeganAlready holds 16.1: who is open, committed, or stopped, does not begin; whatever else the deed has.
func TestBeganAlready(t *testing.T) {
	for _, text := range []string{"Ab", "Ab ArX AwX", "Ab Ac", "Ab AwX Ac", "Ab Bb AwX BwX Bc Ac", "Ab Bb BwX Bc AwX ArY Ac", "Bb AwX Ab Ac AwX"} {
		for n := range 5 * 5 * 4 {
			a, b, x := n/20, n/4%5, n%4
			if a == b {
				continue
			}
			refused(t, deeds(namedText(text, a, b, 0, x, (x+1)%4)), api.ErrState, api.Deed{Kind: api.Begin, Tx: a}, api.Deed{Kind: api.Begin, Tx: a, Item: x, Write: 1}, api.Deed{Kind: api.Begin, Tx: a, Item: 9, Write: -9})
		}
	}
}

// TestNotOpen holds 16.1: who never began, is committed, or is stopped, does nothing, and does not commit.
func TestNotOpen(t *testing.T) {
	for _, text := range []string{"", "Bb BwX", "Bb BwX Bc", "Bb BrX Bc Db DwY", "Ar0 Aw0 Ac", "Ab Ac", "Ab AwX Ac", "Ab ArY AwX Ac Bb BrX BwY Bc", "Ab Bb AwX BwX Bc Ac", "Ab Bb BwX Bc AwX ArY AwY Ac Db DwX"} {
		for n := range 5 * 5 * 4 {
			a, b, x := n/20, n/4%5, n%4
			d := slices.IndexFunc([]int{0, 1, 2, 3, 4}, func(d int) bool { return d != a && d != b })
			if a == b {
				continue
			}
			all := slices.DeleteFunc(usual(5, 4), func(d api.Deed) bool { return d.Tx != a || d.Kind == api.Begin })
			all = append(all, api.Deed{Kind: api.Commit, Tx: a, Item: -1, Write: 2}, api.Deed{Kind: api.Commit, Tx: a, Item: 4, Write: -2})
			refused(t, deeds(namedText(text, a, b, d, x, (x+1)%4)), api.ErrState, all...)
		}
	}
}

// stops: a commit by which its transaction is stopped; it is as if it had done nothing at all, but that it is stopped.
func stops(t *testing.T, row []api.Deed, tx int) {
	t.Helper()
	s := played(row)
	before := stateOf(s)
	if told, err := s.Do(api.Deed{Kind: api.Commit, Tx: tx, Item: 7, Write: 7}); told != 0 || plain.Told(err) != api.ErrClash {
		t.Errorf("%d behind %v: got %d, %v", tx, row, told, err)
	}
	if got := stateOf(s); got != before {
		t.Errorf("%d behind %v: %s became %s", tx, row, before, got)
	}
	row = append(slices.Clip(row), api.Deed{Kind: api.Commit, Tx: tx})
	refused(t, row, api.ErrState, slices.DeleteFunc(usual(5, 4), func(d api.Deed) bool { return d.Tx != tx })...)
	without := slices.DeleteFunc(slices.Clone(row), func(d api.Deed) bool { return d.Tx == tx })
	for _, later := range laterRows() {
		if slices.ContainsFunc(later, func(d api.Deed) bool { return d.Tx == tx }) {
			continue
		}
		if got, want := answersOf(played(row), later), answersOf(played(without), later); got != want {
			t.Fatalf("behind %v: got %s, want %s", row, got, want)
		}
	}
}

// TestClash holds 16.1: who is stopped; and that it is as if it had done nothing.
func TestClash(t *testing.T) {
	for _, text := range []string{
		"Ab Bb AwX BwX Bc", "Ab Bb BwX Bc AwX", "Ab AwX Bb BwX Bc", "Ab Bb BwX AwX Bc", "Ab ArX AwX ArX Bb BwX Bc",
		"Ab Bb BwX BwY Bc AwY AwX", "Ab Bb BwX Bc ArX AwY AwX", "Ab AwX Bb BwX Bc Db DwY Dc", "Ab AwX Bb BwX Bc Db DwX Dc",
		"Db DwX Dc Ab AwX Bb BwX Bc", "Db DwX Ab AwX Bb Dc BwY Bc", "Ab AwX AwY Db DwX Bb BwX BwY Bc Dc", "Ab ArY AwX Db DrX DwY Bb BwX Bc Dc",
	} {
		for n := range 5 * 5 * 4 {
			a, b, x := n/20, n/4%5, n%4
			d := slices.IndexFunc([]int{0, 1, 2, 3, 4}, func(d int) bool { return d != a && d != b })
			if a != b {
				stops(t, deeds(namedText(text, a, b, d, x, (x+1)%4)), a)
			}
		}
	}
}

// TestNotInTheWay holds 16.1: what stops nobody.
func TestNotInTheWay(t *testing.T) {
	for _, text := range []string{
		"Ab Bb BwX Bc ArX=- AwY Ac", "Ab ArX=- Bb BwX Bc Ac", "Bb BwX Bc Ab AwX Ac", "Ab AwX Bb BwX Ac", "Ab AwX Bb BwX Bc Ac! Db DwX Dc",
		"Ab Bb Db AwX BwX BwY Ac Bc! DwY Dc", "Ab Bb AwX BwY Bc Ac", "Ab Bb AwX BrX=- Bc Ac", "Ab Bb AwX BrX=- Ac Bc", "Ab Bb AwX Bc Ac",
	} {
		for n := range 5 * 5 * 4 {
			a, b, x := n/20, n/4%5, n%4
			d := slices.IndexFunc([]int{0, 1, 2, 3, 4}, func(d int) bool { return d != a && d != b })
			if a != b {
				play(t, namedText(text, a, b, d, x, (x+1)%4))
			}
		}
	}
}

// TestSeveral holds 16.1: of several faults the one that the chapter names first is told.
func TestSeveral(t *testing.T) {
	clash := deeds("0b 1b 0w0 1w0 1c")
	for _, x := range []struct {
		name string
		row  []api.Deed
		d    api.Deed
		want api.Errno
	}{
		{"no kind, and no transaction", nil, api.Deed{Kind: 6, Tx: 5}, api.ErrRange},
		{"no kind, and not open", nil, api.Deed{Kind: 6}, api.ErrRange},
		{"no kind, and began already", deeds("0b"), api.Deed{Kind: 2}, api.ErrRange},
		{"no item, and never began", nil, api.Deed{Kind: api.Do, Item: 4}, api.ErrRange},
		{"no item, and committed", deeds("0b 0c"), api.Deed{Kind: api.Do, Item: -1}, api.ErrRange},
		{"no item, and stopped", slices.Concat(clash, deeds("0c")), api.Deed{Kind: api.Do, Item: 4, Write: 1}, api.ErrRange},
		{"no such write, and never began", nil, api.Deed{Kind: api.Do, Write: 2}, api.ErrRange},
		{"no such write, and committed", deeds("0b 0c"), api.Deed{Kind: api.Do, Write: -1}, api.ErrRange},
		{"no such write, and stopped", slices.Concat(clash, deeds("0c")), api.Deed{Kind: api.Do, Write: 3}, api.ErrRange},
		{"no item, nor such a write, and never began", nil, api.Deed{Kind: api.Do, Item: 9, Write: 9}, api.ErrRange},
		{"committed, and what it wrote was committed by another one since", deeds("0b 0w0 0c 1b 1w0 1c"), deed("0c"), api.ErrState},
		{"stopped, and what it wrote was committed by another one", slices.Concat(clash, deeds("0c")), deed("0c"), api.ErrState},
		{"never began, and wrote what another one committed", deeds("0w0 1b 1w0 1c"), deed("0c"), api.ErrState},
	} {
		refused(t, x.row, x.want, x.d)
		if t.Failed() {
			t.Fatal(x.name)
		}
	}
}

// TestRefusedIsNotDone holds 16.1: what was refused is not written, not read, and nobody began with it.
func TestRefusedIsNotDone(t *testing.T) {
	holdWorked(t, []worked{
		// Written, or read, ahead of its Begin.
		{"0w0? 0r1? 0b 0r0=- 0c 1b 1w0 1w1 1c", "01; 0>1; 01234"},
		{"0w0? 0b 0c 1b 1r0=- 1c", "01; ; 01234"},
		// Behind its Commit.
		{"0b 0c 0w0? 0r1? 1b 1r0=- 1w1 1c", "01; ; 01234"},
		{"0b 1b 0w0 1w0 0c 1c! 1w1? 2b 2r1=- 2c", "02; ; 01234"},
		// A second Begin does not make it see more.
		{"0b 1b 1w0 1c 0b? 0r0=- 0w0 0c!", "1; ; 01234"},
		{"0b 1b 1w0 1c 0b? 0r0=- 0c", "01; 0~1; 01234"},
		// A second Commit is none.
		{"0b 0w0 0c 1b 1w0 0c? 1c 0c? 2b 2r0=1 2c", "012; 0>1 0>2 1>2; 01234"},
		// What never began does not commit.
		{"0c? 1b 0c? 1c", "1; ; 01234"},
	})
	s := play(t, "0b 0w0 0c 1b")
	for _, d := range []api.Deed{{Kind: api.Do, Tx: 1, Item: 4}, {Kind: api.Do, Tx: 1, Item: 4, Write: 1}, {Kind: api.Do, Tx: 1, Write: 2}, {Kind: api.Do, Tx: 1, Item: -4, Write: 1}, {Kind: 8, Tx: 1}} {
		s.Do(d)
	}
	if got := answersOf(s, deeds("1c")); !strings.HasSuffix(got, "01; ; 01234") {
		t.Errorf("got %s", got)
	}
}
