package prior_test

import (
	"fmt"
	"math"
	"slices"
	"strings"
	"testing"

	"whenstead/api"
	"whenstead/plain"
	"whenstead/prior"
	"whenstead/sched"
)

// played: a gate at which a row of acts was asked for, whatever it told.
func played(skips bool, row []api.Act) *prior.Gate {
	g := prior.New(skips)
	for _, a := range row {
		g.Do(a)
	}
	return g
}

// usual acts of some transactions, on some items.
func usual(txs, items int) []api.Act {
	var all []api.Act
	for tx := range txs {
		for item := range items {
			all = append(all, api.Act{Tx: tx, Item: item}, api.Act{Tx: tx, Item: item, Write: 1})
		}
	}
	return all
}

// laterOf a row: of each act what would be told of it behind that, and how things would stand then.
func laterOf(skips bool, row []api.Act) map[api.Act]string {
	all := map[api.Act]string{}
	for _, a := range usual(5, 4) {
		g := played(skips, row)
		is, err := g.Do(a)
		all[a] = fmt.Sprint(is, plain.Told(err), " ", stateOf(g))
	}
	return all
}

// holdLater: behind a row, with some more, all is told that is told without these.
func holdLater(t *testing.T, skips bool, row, more []api.Act) {
	t.Helper()
	got, want := laterOf(skips, slices.Concat(row, more)), laterOf(skips, row)
	for a := range want {
		if got[a] != want[a] {
			t.Errorf("skips %v, %v behind %v, and behind %v: %v became %v", skips, a, row, more, want[a], got[a])
		}
	}
}

// nothingDone: acts of which this is told, and that it was not done, and that change nothing that can be asked, neither then nor later.
func nothingDone(t *testing.T, skips bool, row []api.Act, want api.Errno, some ...api.Act) {
	t.Helper()
	g := played(skips, row)
	before := stateOf(g)
	for _, a := range some {
		if is, err := g.Do(a); is || plain.Told(err) != want {
			t.Errorf("skips %v, %v behind %v: got %v, %v, want %v", skips, a, row, is, err, want)
		}
		if got := stateOf(g); got != before {
			t.Fatalf("skips %v, %v behind %v: %s became %s", skips, a, row, before, got)
		}
	}
	holdLater(t, skips, row, some)
}

// stops: an act by which its transaction is stopped, and that changes nothing else, neither then nor later.
func stops(t *testing.T, skips bool, row []api.Act, a api.Act) {
	t.Helper()
	g := played(skips, row)
	acts, dead := g.Acts(), g.Dead()
	if is, err := g.Do(a); is || plain.Told(err) != api.ErrClash {
		t.Errorf("skips %v, %v behind %v: got %v, %v", skips, a, row, is, err)
	}
	if !slices.Equal(g.Acts(), acts) || g.Dead() != dead+1<<a.Tx {
		t.Errorf("skips %v, %v behind %v: %v, %d became %s", skips, a, row, acts, dead, stateOf(g))
	}
	for _, b := range usual(5, 4) {
		if b.Tx != a.Tx {
			holdOthers(t, skips, row, a, b)
		} else if is, err := g.Do(b); is || plain.Told(err) != api.ErrState || !slices.Equal(g.Acts(), acts) || g.Dead() != dead+1<<a.Tx {
			t.Errorf("skips %v, %v behind %v, %v: got %v, %v, %s", skips, b, row, a, is, err, stateOf(g))
		}
	}
}

// holdOthers: behind an act that stops its transaction, an act of another one goes as it goes without that.
func holdOthers(t *testing.T, skips bool, row []api.Act, stops, a api.Act) {
	t.Helper()
	g, without := played(skips, slices.Concat(row, []api.Act{stops})), played(skips, row)
	is, err := g.Do(a)
	wantIs, wantErr := without.Do(a)
	if is != wantIs || plain.Told(err) != plain.Told(wantErr) || !slices.Equal(g.Acts(), without.Acts()) || g.Dead() != without.Dead()|1<<stops.Tx {
		t.Errorf("skips %v, %v behind %v, %v: got %v, %v, %s, want %v, %v, %s", skips, a, row, stops, is, err, stateOf(g), wantIs, wantErr, stateOf(without))
	}
}

// outside numbers: below 0, and above the greatest that may be.
func outside(most int) []int {
	return []int{-1, -2, -most, -most - 1, -63, -64, -1 << 32, math.MinInt, math.MinInt + 1,
		most + 1, most + 2, 2*most + 1, 63, 64, 65, 1 << 32, 1<<32 + 1, 1 << 62, math.MaxInt}
}

// badActs: an act of which one number is none that may be; all else of it is as it was.
func badActs(a api.Act) []api.Act {
	var all []api.Act
	for _, x := range outside(4) {
		all = append(all, api.Act{Tx: x, Item: a.Item, Write: a.Write})
	}
	for _, x := range outside(3) {
		all = append(all, api.Act{Tx: a.Tx, Item: x, Write: a.Write})
	}
	for _, x := range outside(1) {
		all = append(all, api.Act{Tx: a.Tx, Item: a.Item, Write: x})
	}
	return all
}

// fullRow: as many acts as may be, by so many of the transactions, and on three items.
func fullRow(txs int) []api.Act {
	var row []api.Act
	for i := range 24 {
		row = append(row, api.Act{Tx: 5 - txs + i*txs/24, Item: i % 3, Write: i / 2 % 2})
	}
	return row
}

// someRows behind which nothing was done, something was, some were stopped, and as many acts as may be were done.
func someRows() [][]api.Act {
	return [][]api.Act{
		nil,
		acts("0r0 1w0 4r3 2w2 2r1"),
		acts("4w0 1r0 3w1 4r1 3w1 2r2"),
		acts("2w0 4r0 2w0 3w1 1r1 4w3 0w3 3w3"),
		acts("4w0 4r1 3r0 2r0 1w1 0w1 4w2"),
		fullRow(1),
		fullRow(5),
		slices.Concat(acts("2w3 1r3 0w3"), fullRow(3)),
	}
}

// TestRange holds 15.1: each number of an act, below and above what may be, ahead of all else that is wrong; as chapter 13's Check tells it.
func TestRange(t *testing.T) {
	for _, skips := range []bool{true, false} {
		for _, row := range someRows() {
			for _, a := range usual(5, 4) {
				bad := badActs(a)
				for _, b := range bad {
					if got := plain.Told(sched.Check([]api.Act{b})); got != api.ErrRange {
						t.Fatalf("%v: got %v", b, got)
					}
				}
				nothingDone(t, skips, row, api.ErrRange, bad...)
			}
			var all []api.Act
			for _, x := range outside(4) {
				all = append(all, api.Act{Tx: x, Item: x, Write: x}, api.Act{Tx: x, Item: x}, api.Act{Tx: x, Write: x}, api.Act{Item: x, Write: x})
			}
			nothingDone(t, skips, row, api.ErrRange, all...)
		}
	}
}

// TestMayBe holds 15.1: all numbers that may be, may be.
func TestMayBe(t *testing.T) {
	for _, a := range usual(5, 4) {
		for _, skips := range []bool{true, false} {
			play(t, skips, wordOf(a))
		}
	}
}

// TestState holds 15.1: who was stopped does nothing more, whatever it asks for: what it did already, what nobody did, what it could do, and what greater ones are in the way of, or would be skipped.
func TestState(t *testing.T) {
	for _, x := range []struct {
		skips bool
		text  string
	}{
		{true, "bwx arx"}, {true, "brx awx"}, {true, "brx bwx awx"}, {false, "bwx awx"}, {false, "brx awx"},
		{true, "ary awy bwx bry bwy awx arx"}, {false, "ary awy bwx awx"},
		{false, "bry awy bwx"}, {true, "bry awy bwx"},
	} {
		for b := range 5 {
			for a := range b {
				for item := range 4 {
					row := named(x.text, a, b, item, (item+1)%4)
					if got := played(x.skips, row).Dead(); got != 1<<a {
						t.Fatalf("behind %v %d are stopped", row, got)
					}
					nothingDone(t, x.skips, row, api.ErrState, usual(5, 4)[8*a:8*a+8]...)
				}
			}
		}
	}
}

// TestClash holds 15.1: who is stopped, by what; and that this alone is changed by it.
func TestClash(t *testing.T) {
	for _, x := range []struct{ row, bad, both string }{
		{"bwx", "arx", "tf"}, {"brx", "awx", "tf"}, {"bwx", "awx", "f"},
		{"bwx brx", "awx", "tf"}, {"brx bwx", "awx", "tf"}, {"arx awx bwx", "arx", "tf"}, {"arx awx brx", "awx", "tf"},
		{"ary bwy bwx", "arx", "tf"}, {"awx bwx bwx", "awx", "f"}, {"bry bwy bwx", "awx", "f"}, {"ary awy brx", "awx", "tf"},
	} {
		for _, r := range x.both {
			for b := range 5 {
				for a := range b {
					for item := range 4 {
						y := (item + 3) % 4
						stops(t, r == 't', named(x.row, a, b, item, y), named(x.bad, a, b, item, y)[0])
					}
				}
			}
		}
	}
}

// TestClashAmongMany holds 15.1: one greater one is enough, however many lesser ones did the same, and whatever was done behind it; also if it was stopped since.
func TestClashAmongMany(t *testing.T) {
	for _, skips := range []bool{true, false} {
		stops(t, skips, acts("0w0 1w0 2w0 3w0 3r0 4r1"), act("2r0"))
		stops(t, skips, acts("0r0 1r0 2r0 4r0 0r0 1r0 2r0"), act("3w0"))
		stops(t, skips, acts("4r0 3r0 2r0 1r0"), act("0w0"))
		stops(t, skips, acts("0r0 2w0 4w1 2r1"), act("1r0"))
		stops(t, skips, acts("0r0 2r0 4w1 2r1"), act("1w0"))
		stops(t, false, acts("0r0 2w0 4w1 2r1"), act("1w0"))
		stops(t, skips, acts("3w0 4w1 2r1 1r1 0r1"), act("3r1"))
	}
}

// TestSkipped holds 15.1: what a greater one wrote, and none read, is written no more at a gate that skips: nothing is done, and nothing is wrong; nobody is stopped.
func TestSkipped(t *testing.T) {
	for _, text := range []string{"bwx", "bwx bwx", "bwx bry", "bwx bwy", "arx bwx", "awx bwx", "arx awx ary bwx", "bry bwx bwy awx awx"} {
		for b := range 5 {
			for a := range b {
				for item := range 4 {
					y := (item + 2) % 4
					nothingDone(t, true, named(text, a, b, item, y), api.OK, named("awx awx awx", a, b, item, y)...)
				}
			}
		}
	}
	// Lesser ones that read it are no matter, nor is one that was stopped since it wrote.
	nothingDone(t, true, acts("0r0 1r0 3w0"), api.OK, acts("2w0 1w0 2w0")...)
	nothingDone(t, true, acts("0r0 3w0 4w1 3r1"), api.OK, acts("2w0 1w0 0w0")...)
}

// TestNotInTheWay holds 15.1: lesser ones, its own acts, and other items are in nobody's way; nor are two that read.
func TestNotInTheWay(t *testing.T) {
	for _, text := range []string{"awx brx", "awx bwx", "arx bwx", "arx brx", "brx arx", "bwx brx ary", "bwx brx awy", "bry bwy arx awx arx", "awx arx arx awx brx bwx", "arx brx arx brx ary bwx"} {
		for b := range 5 {
			for a := range b {
				for item := range 4 {
					for _, skips := range []bool{true, false} {
						play(t, skips, namedText(text, a, b, item, (item+1)%4))
					}
				}
			}
		}
	}
}

// TestFull holds 15.1: 24 acts may be done, by one transaction or by all, and not one more.
func TestFull(t *testing.T) {
	for txs := 1; txs <= 5; txs++ {
		for _, skips := range []bool{true, false} {
			row := fullRow(txs)
			g := play(t, skips, wordsOf(row))
			if got := g.Acts(); len(got) != 24 || api.MaxActs != 24 || !slices.Equal(got, row) {
				t.Fatalf("%v were done", got)
			}
			// Also what would be skipped, or would stop somebody.
			nothingDone(t, skips, row, api.ErrFull, usual(5, 4)...)
		}
	}
}

// TestOnlyDoneCount holds 15.1: what was refused, or skipped, is none of the 24.
func TestOnlyDoneCount(t *testing.T) {
	late := " 3w0- 2w0- 0w0- 1r0! 1w0s 0w0-"
	row := "4w0" + late + strings.Repeat(" 4w0 3w1 4r2"+strings.ReplaceAll(late, "!", "s"), 7) + " 4w0 3w1"
	play(t, true, row+" 4w0f 3w0f 0w0f 0r0f 2r1f 1r0s 1w3s")
	late = " 3w0s 1r0s 2w0s"
	row = "4w0 3w0! 1r0! 2w0!" + strings.Repeat(" 4w0 0w1 4r2"+late, 7) + " 4w0 0w1"
	play(t, false, row+" 4w0f 0w0f 0r3f 3w0s 1r0s")
}

// TestSeveral holds 15.1: of several faults the one that the chapter names first is told.
func TestSeveral(t *testing.T) {
	dead, full := acts("4w0 0r0"), fullRow(5)
	both := slices.Concat(acts("4w3 0r3"), fullRow(1))
	for _, x := range []struct {
		name string
		row  []api.Act
		a    api.Act
		want api.Errno
	}{
		{"no item, and stopped", dead, api.Act{Item: 4}, api.ErrRange},
		{"no such write, and stopped", dead, api.Act{Write: 2}, api.ErrRange},
		{"no such write, stopped, and a greater one wrote it", dead, api.Act{Write: -1}, api.ErrRange},
		{"no item, and full", full, api.Act{Item: -1}, api.ErrRange},
		{"no such transaction, and full", full, api.Act{Tx: 5}, api.ErrRange},
		{"no such write, and full", full, api.Act{Write: 2}, api.ErrRange},
		{"no such write, and a greater one wrote and read it", acts("4w0 4r0"), api.Act{Write: 3}, api.ErrRange},
		{"no item, stopped, and full", both, api.Act{Item: 4}, api.ErrRange},
		{"stopped, and a greater one wrote what it reads", dead, act("0r0"), api.ErrState},
		{"stopped, and a greater one wrote what it writes", dead, act("0w0"), api.ErrState},
		{"stopped, and a greater one read what it writes", acts("4w0 4r0 0r0"), act("0w0"), api.ErrState},
		{"stopped, and nobody is in the way", dead, act("0r1"), api.ErrState},
		{"stopped, and full", both, act("0r2"), api.ErrState},
		{"stopped, full, and a greater one wrote it", both, act("0r3"), api.ErrState},
		{"full, and a greater one wrote what it reads", full, act("0r0"), api.ErrFull},
		{"full, and a greater one read what it writes", full, act("1w2"), api.ErrFull},
		{"full, and a greater one wrote what it writes, and none read", both, act("1w3"), api.ErrFull},
		{"full", full, act("4r3"), api.ErrFull},
	} {
		for _, skips := range []bool{true, false} {
			nothingDone(t, skips, x.row, x.want, x.a)
			if t.Failed() {
				t.Fatal(x.name)
			}
		}
	}
}
