package sched_test

import (
	"slices"
	"strings"
	"testing"

	"whenstead/api"
	"whenstead/sched"
)

// write of an item, by a transaction.
func write(tx, item int) api.Act { return api.Act{Tx: tx, Item: item, Write: 1} }

// read of an item, by a transaction.
func read(tx, item int) api.Act { return api.Act{Tx: tx, Item: item} }

// acts as words tell them: "0r2" is that 0 reads item 2, and "1w3" that 1 writes item 3.
func acts(text string) []api.Act {
	var s []api.Act
	for _, word := range strings.Fields(text) {
		a := read(int(word[0]-'0'), int(word[2]-'0'))
		if word[1] == 'w' {
			a.Write = 1
		}
		s = append(s, a)
	}
	return s
}

// none: there is no row.
var none []int

// row of some numbers; also of none.
func row(all ...int) []int { return append([]int{}, all...) }

// worked out by hand: what is told of a schedule; the least row is none where there is a ring.
type worked struct {
	name  string
	s     string
	edges []int
	least []int
	reads []int
}

// workedFew acts, or such that have nothing to do with each other.
func workedFew() []worked {
	return []worked{
		{"no acts", "", row(0, 0, 0, 0, 0), row(0, 1, 2, 3, 4), row()},
		{"one that reads", "2r1", row(0, 0, 0, 0, 0), row(0, 1, 2, 3, 4), row(-1)},
		{"one that writes", "4w3", row(0, 0, 0, 0, 0), row(0, 1, 2, 3, 4), row(-1)},
		{"one transaction alone", "3r0 3w0 3r0 3w1 3r1 3r0 3w0 3r0 3r2", row(0, 0, 0, 0, 0), row(0, 1, 2, 3, 4), row(-1, -1, 1, -1, 3, 1, -1, 6, -1)},
		{"all of them read", "4r0 3r0 2r0 1r0 0r0 4r0 3r0", row(0, 0, 0, 0, 0), row(0, 1, 2, 3, 4), row(-1, -1, -1, -1, -1, -1, -1)},
		{"an item each", "3w0 2w1 1w2 0w3 3r0 2r1 1r2 0r3", row(0, 0, 0, 0, 0), row(0, 1, 2, 3, 4), row(-1, -1, -1, -1, 0, 1, 2, 3)},
		{"two that read alike", "1r0 1r0", row(0, 0, 0, 0, 0), row(0, 1, 2, 3, 4), row(-1, -1)},
		{"two that write alike", "1w0 1w0", row(0, 0, 0, 0, 0), row(0, 1, 2, 3, 4), row(-1, -1)},
		{"two that write alike, and one that reads", "1w0 1w0 1r0", row(0, 0, 0, 0, 0), row(0, 1, 2, 3, 4), row(-1, -1, 1)},
	}
}

// workedPairs of transactions.
func workedPairs() []worked {
	return []worked{
		{"both read", "1r0 0r0", row(0, 0, 0, 0, 0), row(0, 1, 2, 3, 4), row(-1, -1)},
		{"one reads, then one writes", "1r0 0w0", row(0, 1, 0, 0, 0), row(1, 0, 2, 3, 4), row(-1, -1)},
		{"one writes, then one reads", "1w0 0r0", row(0, 1, 0, 0, 0), row(1, 0, 2, 3, 4), row(-1, 0)},
		{"both write", "1w0 0w0", row(0, 1, 0, 0, 0), row(1, 0, 2, 3, 4), row(-1, -1)},
		{"both write, of two items", "1w0 0w1", row(0, 0, 0, 0, 0), row(0, 1, 2, 3, 4), row(-1, -1)},
		{"one writes, then one reads another item", "1w0 0r1", row(0, 0, 0, 0, 0), row(0, 1, 2, 3, 4), row(-1, -1)},
		{"the other way", "0w0 1r0", row(2, 0, 0, 0, 0), row(0, 1, 2, 3, 4), row(-1, 0)},
		{"the last one ahead of the first one", "4w3 0r3", row(0, 0, 0, 0, 1), row(1, 2, 3, 4, 0), row(-1, 0)},
		{"alike, twice", "2w1 0w1 0w1", row(0, 0, 1, 0, 0), row(1, 2, 0, 3, 4), row(-1, -1, -1)},
		{"its own write, behind another one's", "0w0 1w0 0w0 0r0", row(2, 1, 0, 0, 0), none, row(-1, -1, -1, 2)},
		{"another one's write, behind its own", "0w0 1w0 0r0", row(2, 1, 0, 0, 0), none, row(-1, -1, 1)},
		{"read ahead of all writes, too", "0r0 1w0 0r0", row(2, 1, 0, 0, 0), none, row(-1, -1, 1)},
		{"a write that is lost", "0r0 1r0 0w0 1w0", row(2, 1, 0, 0, 0), none, row(-1, -1, -1, -1)},
		{"a write that is not lost", "0r0 0w0 1r0 1w0", row(2, 0, 0, 0, 0), row(0, 1, 2, 3, 4), row(-1, -1, 1, -1)},
		{"a ring over two items", "3w0 1w1 1r0 3r1", row(0, 8, 0, 2, 0), none, row(-1, -1, 0, 1)},
		{"no ring over two items", "3w0 3r1 1w1 1r0", row(0, 0, 0, 2, 0), row(0, 2, 3, 1, 4), row(-1, -1, -1, 0)},
	}
}

// workedMore transactions than two.
func workedMore() []worked {
	return []worked{
		{"one writes, and all read", "4w2 0r2 1r2 2r2 3r2", row(0, 0, 0, 0, 15), row(4, 0, 1, 2, 3), row(-1, 0, 0, 0, 0)},
		{"all read, and one writes", "0r2 1r2 2r2 3r2 4w2", row(16, 16, 16, 16, 0), row(0, 1, 2, 3, 4), row(-1, -1, -1, -1, -1)},
		{"a ladder down", "4w0 3r0 3w1 2r1 2w2 1r2 1w3 0r3", row(0, 1, 2, 4, 8), row(4, 3, 2, 1, 0), row(-1, 0, -1, 2, -1, 4, -1, 6)},
		{"a ladder down on one item", "4w0 3w0 2w0 1w0 0w0", row(0, 1, 3, 7, 15), row(4, 3, 2, 1, 0), row(-1, -1, -1, -1, -1)},
		{"a ring of three", "0w0 1r0 1w1 2r1 2w2 0r2", row(2, 4, 1, 0, 0), none, row(-1, 0, -1, 2, -1, 4)},
		{"three that make no ring", "0w0 1r0 1w1 2r1 0w2 2r2", row(6, 4, 0, 0, 0), row(0, 1, 2, 3, 4), row(-1, 0, -1, 2, -1, 4)},
		{"a ring of four", "1w0 3r0 3w1 2r1 2w2 4r2 4w3 1r3", row(0, 8, 16, 4, 2), none, row(-1, 0, -1, 2, -1, 4, -1, 6)},
		{"a ring of all", "0r0 1w0 2r0 2r1 3w1 4r1 4r2 0w2", row(2, 4, 8, 16, 1), none, row(-1, -1, 1, -1, -1, 4, -1, -1)},
		{"a ring of all, and more", "0r0 1w0 1r1 2w1 2r2 3w2 3r3 4w3 4w0 0r0", row(18, 21, 8, 16, 1), none, row(-1, -1, -1, -1, -1, -1, -1, -1, -1, 8)},
		{"a ring of all but one way", "0r0 1w0 1r1 2w1 2r2 3w2 3r3 4w3", row(2, 4, 8, 16, 0), row(0, 1, 2, 3, 4), row(-1, -1, -1, -1, -1, -1, -1, -1)},
		{"two pairs that are crossed", "3w0 0w0 4w1 1w1", row(0, 0, 0, 1, 2), row(2, 3, 0, 4, 1), row(-1, -1, -1, -1)},
		{"two pairs, the other way", "4w0 0w0 3w1 1w1", row(0, 0, 0, 2, 1), row(2, 3, 1, 4, 0), row(-1, -1, -1, -1)},
		{"two rings", "0w0 1w0 0w0 3r3 2w3 3r3", row(2, 1, 8, 4, 0), none, row(-1, -1, -1, -1, -1, 4)},
		{"a ring behind one that stands alone", "2w0 3w1 4w1 3w1", row(0, 0, 0, 16, 8), none, row(-1, -1, -1, -1)},
	}
}

// workedFull: as many acts as may be.
func workedFull() []worked {
	first := strings.Repeat("4w0 ", 12) + strings.Repeat("3r0 ", 12)
	late := strings.Repeat("0r1 ", 23) + "1w1"
	lateRing := "1w1 " + strings.Repeat("0r0 ", 22) + "0r1"
	lateRing = strings.Replace(lateRing, "0r0", "0w2", 1)
	lateRing = strings.Replace(lateRing, "0r0", "1r2", 1)
	twelve := slices.Repeat(row(-1), 12)
	return []worked{
		{"twelve that write, twelve that read", first, row(0, 0, 0, 0, 8), row(0, 1, 2, 4, 3), append(twelve, slices.Repeat(row(11), 12)...)},
		{"the last one writes", late, row(2, 0, 0, 0, 0), row(0, 1, 2, 3, 4), slices.Repeat(row(-1), 24)},
		{"the first one and the last one close a ring", lateRing, row(2, 1, 0, 0, 0), none, append(append(row(-1, -1, 1), slices.Repeat(row(-1), 20)...), 0)},
		{"rounds over all items", strings.Repeat("0w0 1w1 2w2 3w3 0r0 1r1 2r2 3r3 ", 3), row(0, 0, 0, 0, 0), row(0, 1, 2, 3, 4),
			row(-1, -1, -1, -1, 0, 1, 2, 3, -1, -1, -1, -1, 8, 9, 10, 11, -1, -1, -1, -1, 16, 17, 18, 19)},
	}
}

// allWorkedOut above.
func allWorkedOut() []worked {
	return slices.Concat(workedFew(), workedPairs(), workedMore(), workedFull())
}

// TestWorkedOut holds 13.1, and Reads of 13.2.
func TestWorkedOut(t *testing.T) {
	for _, x := range allWorkedOut() {
		s := acts(x.s)
		if err := sched.Check(s); err != nil {
			t.Errorf("%s: Check: got %v", x.name, err)
		}
		if got, err := sched.Edges(s); err != nil || !slices.Equal(got, x.edges) {
			t.Errorf("%s: Edges: got %v, %v, want %v", x.name, got, err, x.edges)
		}
		if is, got, err := sched.Serial(s); err != nil || is != (x.least != nil) || !slices.Equal(got, x.least) || !is && got != nil {
			t.Errorf("%s: Serial: got %v, %v, %v, want %v", x.name, is, got, err, x.least)
		}
		if got, err := sched.Reads(s); err != nil || !slices.Equal(got, x.reads) {
			t.Errorf("%s: Reads: got %v, %v, want %v", x.name, got, err, x.reads)
		}
	}
}

// ordered by hand.
type ordered struct {
	name   string
	s      string
	row    []int
	places []int
}

// allOrdered by hand.
func allOrdered() []ordered {
	return []ordered{
		{"no acts", "", row(3, 1, 4, 0, 2), row()},
		{"one act, its transaction first", "2r0", row(2, 0, 1, 3, 4), row(0)},
		{"one act, its transaction last", "2w0", row(0, 1, 3, 4, 2), row(0)},
		{"one transaction alone", "3r0 3w0 3w1 3r2", row(4, 3, 2, 1, 0), row(0, 1, 2, 3)},
		{"two, the first one first", "1r0 0r1 1w2 0w3", row(1, 0, 2, 3, 4), row(0, 2, 1, 3)},
		{"two, the last one first", "1r0 0r1 1w2 0w3", row(0, 1, 2, 3, 4), row(1, 3, 0, 2)},
		{"others between", "1r0 0r1 1w2 0w3", row(2, 0, 3, 1, 4), row(1, 3, 0, 2)},
		{"an act each", "0r0 1r0 2r0 3r0 4r0", row(4, 2, 0, 1, 3), row(4, 2, 0, 1, 3)},
		{"an act each, told the other way", "4r0 3r0 2r0 1r0 0r0", row(0, 1, 2, 3, 4), row(4, 3, 2, 1, 0)},
		{"two that are alike", "1w0 2w0 1w0 2w0", row(2, 1, 0, 3, 4), row(1, 3, 0, 2)},
		{"against what they wrote", "0w0 1r0 1w1 0r1", row(1, 0, 2, 3, 4), row(1, 2, 0, 3)},
		{"as many as may be", strings.Repeat("0r0 1w1 2r2 ", 8), row(2, 4, 0, 3, 1),
			row(2, 5, 8, 11, 14, 17, 20, 23, 0, 3, 6, 9, 12, 15, 18, 21, 1, 4, 7, 10, 13, 16, 19, 22)},
	}
}

// TestOrdered holds Ordered of 13.2.
func TestOrdered(t *testing.T) {
	for _, x := range allOrdered() {
		if got, err := sched.Ordered(acts(x.s), x.row); err != nil || !slices.Equal(got, x.places) {
			t.Errorf("%s: got %v, %v, want %v", x.name, got, err, x.places)
		}
	}
}
