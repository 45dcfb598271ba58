package lock_test

import (
	"fmt"
	"slices"
	"strings"
	"testing"

	"whenstead/api"
	"whenstead/lock"
	"whenstead/plain"
)

// deed as a word tells it: "0s2" is that 0 locks item 2 to read, "0o2" that it locks it to write, "0f2" that it frees it, "0r2" that it reads it, and "0w2" that it writes it.
func deed(word string) api.Deed {
	d := api.Deed{Kind: strings.IndexByte("sofrw", word[1]), Tx: int(word[0] - '0'), Item: int(word[2] - '0')}
	if d.Kind > api.Do {
		d.Kind, d.Write = api.Do, 1
	}
	return d
}

// deeds as words tell them.
func deeds(text string) []api.Deed {
	var row []api.Deed
	for _, word := range strings.Fields(text) {
		row = append(row, deed(word))
	}
	return row
}

// named: deeds as words tell them in which a and b are transactions, and x and y items.
func named(text string, a, b, x, y int) []api.Deed {
	digit := func(i int) string { return fmt.Sprint(i) }
	return deeds(strings.NewReplacer("a", digit(a), "b", digit(b), "x", digit(x), "y", digit(y)).Replace(text))
}

// tableOf a row of deeds in which nothing is wrong.
func tableOf(t *testing.T, row []api.Deed) *lock.Table {
	t.Helper()
	x := lock.New()
	for i, d := range row {
		if err := x.Do(d); err != nil {
			t.Fatalf("%v, deed %d: got %v", row, i, err)
		}
	}
	return x
}

// actsOf a table, as words.
func actsOf(x *lock.Table) string {
	var words []string
	for _, a := range x.Acts() {
		words = append(words, fmt.Sprintf("%d%c%d", a.Tx, "rw"[a.Write], a.Item))
	}
	return strings.Join(words, " ")
}

// setOf things, as text: one digit each, and what is none told, too.
func setOf(s int) string {
	text := ""
	for i := range 5 {
		if s>>i&1 == 1 {
			text += fmt.Sprint(i)
		}
	}
	if s < 0 || s > 31 {
		text += fmt.Sprintf("(%d)", s)
	}
	return text
}

// waitsOf a table, as text: "1>0 2>01" is that 1 waits for 0, and 2 for 0 and 1.
func waitsOf(x *lock.Table) string {
	all := x.Waits()
	var words []string
	for tx, s := range all {
		if s != 0 {
			words = append(words, fmt.Sprint(tx, ">", setOf(s)))
		}
	}
	if len(all) != 5 {
		words = append(words, fmt.Sprint("of ", len(all)))
	}
	return strings.Join(words, " ")
}

// stateOf a table: all that can be asked of it.
func stateOf(x *lock.Table) string {
	return actsOf(x) + "; " + waitsOf(x) + "; " + setOf(x.Stuck())
}

// behind a deed: what it told, who waits for whom, and who is stuck.
type behind struct {
	deed  string
	err   api.Errno
	waits string
	stuck string
}

// good: it was done, and now this one waits for that one.
func good(deed, waits, stuck string) behind { return behind{deed, api.OK, waits, stuck} }

// fine: it was done, and nobody waits.
func fine(deed string) behind { return good(deed, "", "") }

// clash: it was refused, as another one holds what stands against it.
func clash(deed, waits, stuck string) behind { return behind{deed, api.ErrClash, waits, stuck} }

// lacks: it was refused, as there is no lock for it.
func lacks(deed, waits, stuck string) behind { return behind{deed, api.ErrNone, waits, stuck} }

// late: it was refused, as something was freed already.
func late(deed, waits, stuck string) behind { return behind{deed, api.ErrState, waits, stuck} }

// worked out by hand: a row of deeds, and all that was done behind them.
type worked struct {
	name  string
	steps []behind
	acts  string
}

// workedAlone: one transaction, whatever it locks.
func workedAlone() []worked {
	return []worked{
		{"nothing done", nil, ""},
		{"to read", []behind{lacks("0r0", "", ""), fine("0s0"), fine("0r0"), lacks("0w0", "", ""), fine("0r0"), lacks("0r1", "", "")}, "0r0 0r0"},
		{"to write", []behind{lacks("4w3", "", ""), fine("4o3"), fine("4w3"), fine("4r3"), fine("4w3"), lacks("4w2", "", "")}, "4w3 4r3 4w3"},
		{"to read, then to write", []behind{fine("2s1"), lacks("2w1", "", ""), fine("2o1"), fine("2w1"), fine("2r1"), fine("2f1"), lacks("2r1", "", ""), lacks("2w1", "", ""), lacks("2f1", "", "")}, "2w1 2r1"},
		{"to write, then to read", []behind{fine("2o1"), fine("2s1"), fine("2w1"), fine("2r1"), fine("2f1"), lacks("2r1", "", ""), lacks("2w1", "", ""), lacks("2f1", "", "")}, "2w1 2r1"},
		{"to read, twice", []behind{fine("1s0"), fine("1s0"), fine("1r0"), lacks("1w0", "", ""), fine("1f0"), lacks("1r0", "", ""), lacks("1f0", "", "")}, "1r0"},
		{"to write, twice", []behind{fine("1o0"), fine("1o0"), fine("1w0"), fine("1f0"), lacks("1w0", "", ""), lacks("1r0", "", ""), lacks("1f0", "", "")}, "1w0"},
		{"freed, it locks nothing more", []behind{lacks("3f0", "", ""), fine("3s0"), fine("3o1"), lacks("3f2", "", ""), fine("3o2"), fine("3f0"),
			late("3s0", "", ""), late("3o0", "", ""), late("3s1", "", ""), late("3o1", "", ""), late("3s3", "", ""), late("3o3", "", ""),
			lacks("3r0", "", ""), fine("3w1"), fine("3r2"), fine("3f1"), lacks("3w1", "", ""), fine("3w2"), fine("3f2"), lacks("3f2", "", ""), late("3s2", "", "")}, "3w1 3r2 3w2"},
		{"all items", []behind{fine("0o0"), fine("0s1"), fine("0o2"), fine("0s3"), fine("0w0"), fine("0r1"), fine("0w2"), fine("0r3"), lacks("0w1", "", ""), lacks("0w3", "", ""),
			fine("0o1"), fine("0w1"), fine("0f0"), lacks("0w0", "", ""), fine("0w1"), fine("0w2"), fine("0r3"), fine("0f3"), fine("0f2"), fine("0f1"), lacks("0r1", "", "")}, "0w0 0r1 0w2 0r3 0w1 0w1 0w2 0r3"},
	}
}

// workedPairs of transactions.
func workedPairs() []worked {
	return []worked{
		{"two that read", []behind{fine("0s1"), fine("1s1"), fine("1r1"), fine("0r1"), lacks("0w1", "", ""), clash("0o1", "0>1", ""), good("0r1", "0>1", ""), lacks("0w1", "0>1", ""), good("1r1", "0>1", ""),
			fine("1f1"), lacks("0w1", "", ""), fine("0o1"), fine("0w1"), lacks("1r1", "", "")}, "1r1 0r1 0r1 1r1 0w1"},
		{"one that writes, ahead of one that reads", []behind{fine("0o0"), clash("1s0", "1>0", ""), lacks("1r0", "1>0", ""), good("0w0", "1>0", ""), fine("0f0"), lacks("1r0", "", ""), fine("1s0"), fine("1r0"), lacks("1w0", "", ""), late("0s0", "", "")}, "0w0 1r0"},
		{"one that writes, ahead of one that writes", []behind{fine("3o2"), clash("1o2", "1>3", ""), clash("1o2", "1>3", ""), lacks("1w2", "1>3", ""), fine("3f2"), fine("1o2"), fine("1w2")}, "1w2"},
		{"one that reads, ahead of one that writes", []behind{fine("4s3"), clash("0o3", "0>4", ""), lacks("0r3", "0>4", ""), fine("0s3"), fine("0r3"), clash("0o3", "0>4", ""), fine("4f3"), fine("0o3"), fine("0w3")}, "0r3 0w3"},
		{"of other items", []behind{fine("0o0"), fine("1o1"), fine("1s2"), fine("0s2"), fine("0o3"), fine("1w1"), fine("0w0"), lacks("1w0", "", ""), lacks("0w1", "", ""), fine("1r2"), fine("0w3")}, "1w1 0w0 1r2 0w3"},
		{"who has both is in the way of both", []behind{fine("0s0"), fine("0o0"), clash("1s0", "1>0", ""), clash("1o0", "1>0", ""), fine("0f0"), fine("1s0"), fine("1o0")}, ""},
		{"who has both, the other way, too", []behind{fine("0o0"), fine("0s0"), clash("1s0", "1>0", ""), good("0w0", "1>0", ""), clash("1o0", "1>0", ""), fine("0f0"), fine("1o0"), fine("1s0")}, "0w0"},
		{"none of what another one has", []behind{fine("0o0"), fine("0s1"), lacks("1f0", "", ""), lacks("1f1", "", ""), lacks("1r0", "", ""), lacks("1r1", "", ""), fine("1s1"), fine("1r1"), fine("0f1"), fine("1r1"), fine("1f1"), fine("0w0")}, "1r1 1r1 0w0"},
		{"one of two that read frees", []behind{fine("0s0"), fine("1s0"), fine("0f0"), lacks("0r0", "", ""), fine("1r0"), fine("1o0"), fine("1w0")}, "1r0 1w0"},
	}
}

// workedWaits: who waits for whom, and for how long.
func workedWaits() []worked {
	return []worked{
		{"for all that read", []behind{fine("0s0"), fine("1s0"), fine("3s0"), clash("2o0", "2>013", ""), good("1f0", "2>03", ""), good("4s0", "2>034", ""), good("0f0", "2>34", ""), good("3f0", "2>4", ""), fine("4f0"), lacks("2w0", "", ""), fine("2o0")}, ""},
		{"not for itself", []behind{fine("0s0"), fine("1s0"), clash("0o0", "0>1", ""), clash("1o0", "0>1 1>0", "01"), good("2s0", "0>12 1>02", "01"), good("2f0", "0>1 1>0", "01")}, ""},
		{"what is freed is taken by another one", []behind{fine("0o0"), clash("1s0", "1>0", ""), fine("0f0"), good("2o0", "1>2", ""), clash("3s0", "1>2 3>2", ""), clash("4o0", "1>2 3>2 4>2", ""), good("2f0", "", ""), good("3s0", "4>3", ""), good("1s0", "4>13", "")}, ""},
		{"who reads is not in the way of who would read", []behind{fine("0o0"), clash("1s0", "1>0", ""), fine("0f0"), fine("2s0"), good("2o0", "1>2", ""), fine("2f0")}, ""},
		{"for that, and for nothing else", []behind{fine("0o0"), fine("1o1"), clash("2s0", "2>0", ""), clash("2s1", "2>1", ""), good("0f0", "2>1", ""), clash("2o1", "2>1", ""), fine("2s2"), good("2o0", "", ""), clash("2s1", "2>1", ""), fine("1f1")}, ""},
		{"to read, then to write, of one item", []behind{fine("0o0"), clash("1s0", "1>0", ""), clash("1o0", "1>0", ""), fine("0f0"), good("2s0", "1>2", ""), clash("3o0", "1>2 3>2", "")}, ""},
		{"to write, then to read, of one item", []behind{fine("0o0"), clash("1o0", "1>0", ""), clash("1s0", "1>0", ""), fine("0f0"), fine("2s0"), clash("3o0", "3>2", "")}, ""},
		{"what it has already it gets, and waits no more", []behind{fine("0s0"), fine("1s0"), clash("0o0", "0>1", ""), fine("0s0"), clash("0o0", "0>1", ""), fine("0s1")}, ""},
		{"refused otherwise it waits as it did", []behind{fine("0o0"), fine("1s1"), clash("1s0", "1>0", ""), lacks("1f0", "1>0", ""), lacks("1r0", "1>0", ""), lacks("1w1", "1>0", ""), good("1r1", "1>0", ""), good("0w0", "1>0", "")}, "1r1 0w0"},
		{"freed it waits as it did", []behind{fine("0o0"), fine("1s1"), fine("1s2"), clash("1o0", "1>0", ""), good("1f1", "1>0", ""), late("1s3", "1>0", ""), late("1o0", "1>0", ""), late("1s0", "1>0", ""), lacks("1f1", "1>0", ""), good("1r2", "1>0", ""), fine("0f0"), good("2s0", "1>2", ""), late("1o0", "1>2", ""), good("1f2", "1>2", ""), fine("2f0")}, "1r2"},
		{"freed it has nothing to wait for", []behind{fine("0o0"), fine("1s1"), fine("1f1"), late("1s0", "", ""), late("1o0", "", "")}, ""},
		{"what it waits for it frees itself", []behind{fine("0s0"), fine("1s0"), clash("0o0", "0>1", ""), good("0f0", "0>1", ""), fine("1f0"), good("2o0", "0>2", ""), late("0o0", "0>2", "")}, ""},
	}
}

// workedRings: who waits for itself, over others.
func workedRings() []worked {
	return []worked{
		{"two, broken as one frees", []behind{fine("0o0"), fine("1o1"), clash("0s1", "0>1", ""), clash("1s0", "0>1 1>0", "01"), good("1f1", "1>0", ""), good("0s1", "1>0", ""), fine("0f0"), late("1s0", "", "")}, ""},
		{"two, broken as one gets what it has already", []behind{fine("0o0"), fine("1o1"), clash("0o1", "0>1", ""), clash("1o0", "0>1 1>0", "01"), good("0s0", "1>0", ""), clash("0s1", "0>1 1>0", "01")}, ""},
		{"two, broken as one asks for something else", []behind{fine("3o3"), fine("4o0"), fine("2o1"), clash("3s0", "3>4", ""), clash("4s3", "3>4 4>3", "34"), clash("3s1", "3>2 4>3", ""), clash("2o0", "2>4 3>2 4>3", "234"), good("2s2", "3>2 4>3", "")}, ""},
		{"two that read, and would write", []behind{fine("1s2"), fine("3s2"), clash("3o2", "3>1", ""), clash("1o2", "1>3 3>1", "13"), good("1r2", "1>3 3>1", "13"), good("3f2", "3>1", ""), good("1o2", "3>1", ""), good("1f2", "", "")}, "1r2"},
		{"three", []behind{fine("0o0"), fine("1o1"), fine("2s2"), clash("0s1", "0>1", ""), clash("1o2", "0>1 1>2", ""), clash("2s0", "0>1 1>2 2>0", "012"), good("1w1", "0>1 1>2 2>0", "012"), good("2f2", "0>1 2>0", ""), good("1o2", "0>1 2>0", "")}, "1w1"},
		{"three, the other way", []behind{fine("4o0"), fine("2o1"), fine("0o2"), clash("4s2", "4>0", ""), clash("0s1", "0>2 4>0", ""), clash("2s0", "0>2 2>4 4>0", "024"), good("2s3", "0>2 4>0", "")}, ""},
		{"who waits for a ring is in none", []behind{fine("0o0"), fine("1o1"), fine("2o2"), clash("3o2", "3>2", ""), clash("2s0", "2>0 3>2", ""), clash("0o1", "0>1 2>0 3>2", ""), clash("1o0", "0>1 1>0 2>0 3>2", "01"), good("0f0", "0>1 3>2", ""), good("1s0", "0>1 3>2", "")}, ""},
		{"for whom a ring waits is in none", []behind{fine("0s0"), fine("1s0"), fine("4s0"), clash("0o0", "0>14", ""), clash("1o0", "0>14 1>04", "01"), clash("4o0", "0>14 1>04 4>01", "014"), good("4s1", "0>14 1>04", "01"), good("4f0", "0>1 1>0", "01"), late("4o0", "0>1 1>0", "01")}, ""},
		{"two rings at once", []behind{fine("0s0"), fine("1s0"), fine("2s3"), fine("3s3"), clash("0o0", "0>1", ""), clash("3o3", "0>1 3>2", ""), clash("2o3", "0>1 2>3 3>2", "23"), clash("1o0", "0>1 1>0 2>3 3>2", "0123"), clash("4o3", "0>1 1>0 2>3 3>2 4>23", "0123"), good("2s1", "0>1 1>0 3>2 4>23", "01")}, ""},
		{"a ring that waits for a ring", []behind{fine("0s0"), fine("1s0"), fine("2s1"), fine("3s1"), fine("4o2"), fine("1s1"), clash("2o1", "2>13", ""), clash("3o1", "2>13 3>12", "23"), clash("1o0", "1>0 2>13 3>12", "23"), clash("0o0", "0>1 1>0 2>13 3>12", "0123"), clash("0s2", "0>4 1>0 2>13 3>12", "23")}, ""},
		{"two rings that share one", []behind{fine("0s0"), fine("1s1"), fine("2s1"), clash("0o1", "0>12", ""), clash("1o0", "0>12 1>0", "01"), clash("2o0", "0>12 1>0 2>0", "012"), good("1f1", "0>2 1>0 2>0", "02"), good("2f1", "1>0 2>0", "")}, ""},
		{"all, each for all others", []behind{fine("0s3"), fine("1s3"), fine("2s3"), fine("3s3"), fine("4s3"), clash("4o3", "4>0123", ""), clash("3o3", "3>0124 4>0123", "34"), clash("2o3", "2>0134 3>0124 4>0123", "234"),
			clash("1o3", "1>0234 2>0134 3>0124 4>0123", "1234"), clash("0o3", "0>1234 1>0234 2>0134 3>0124 4>0123", "01234"), good("2f3", "0>134 1>034 2>0134 3>014 4>013", "0134")}, ""},
		{"all in one ring", []behind{fine("0o0"), fine("1s1"), fine("2s1"), fine("3o2"), fine("4o3"), clash("0o1", "0>12", ""), clash("1o1", "0>12 1>2", ""), clash("2o2", "0>12 1>2 2>3", ""), clash("3o3", "0>12 1>2 2>3 3>4", ""),
			clash("4s0", "0>12 1>2 2>3 3>4 4>0", "01234"), good("2f1", "0>1 2>3 3>4 4>0", ""), good("1o1", "0>1 2>3 3>4 4>0", "")}, ""},
	}
}

// allWorked out above.
func allWorked() []worked {
	return slices.Concat(workedAlone(), workedPairs(), workedWaits(), workedRings())
}

// TestWorked holds 14.1 and 14.2 at rows that are worked out by hand, behind each deed.
func TestWorked(t *testing.T) {
	for _, w := range allWorked() {
		x := lock.New()
		if got := stateOf(x); got != "; ; " {
			t.Fatalf("%s: at first %s", w.name, got)
		}
		for i, b := range w.steps {
			err := x.Do(deed(b.deed))
			waits, stuck := waitsOf(x), setOf(x.Stuck())
			if plain.Told(err) != b.err || waits != b.waits || stuck != b.stuck {
				t.Errorf("%s, deed %d, %s: got %v, %q, %q, want %v, %q, %q", w.name, i, b.deed, err, waits, stuck, b.err, b.waits, b.stuck)
			}
		}
		if got := actsOf(x); got != w.acts {
			t.Errorf("%s: got %s, want %s", w.name, got, w.acts)
		}
	}
}

// TestNothingDone holds 14.2: of each of five transactions there is a set, though nothing was done at all.
func TestNothingDone(t *testing.T) {
	x := lock.New()
	if got := x.Acts(); len(got) != 0 {
		t.Errorf("Acts: got %v", got)
	}
	if got := x.Waits(); !slices.Equal(got, []int{0, 0, 0, 0, 0}) {
		t.Errorf("Waits: got %v", got)
	}
	if got := x.Stuck(); got != 0 {
		t.Errorf("Stuck: got %d", got)
	}
}

// TestAsNumbers holds 14.2: what is told, as it is told: acts as chapter 13 has them, and sets as bits.
func TestAsNumbers(t *testing.T) {
	x := tableOf(t, deeds("0s3 1s3 2s3 3s3 4s3 4o0 4w0 0r3 4r0 4r3"))
	for tx, want := range [][]int{{30, 0, 0, 0, 0}, {30, 29, 0, 0, 0}, {30, 29, 27, 0, 0}, {30, 29, 27, 23, 0}, {30, 29, 27, 23, 15}} {
		if err := x.Do(api.Deed{Kind: 1, Tx: tx, Item: 3}); plain.Told(err) != api.ErrClash {
			t.Fatalf("%d: got %v", tx, err)
		}
		if got := x.Waits(); !slices.Equal(got, want) {
			t.Errorf("Waits: got %v, want %v", got, want)
		}
		if got, stuck := x.Stuck(), []int{0, 3, 7, 15, 31}[tx]; got != stuck {
			t.Errorf("Stuck: got %d, want %d", got, stuck)
		}
	}
	want := []api.Act{{Tx: 4, Item: 0, Write: 1}, {Tx: 0, Item: 3, Write: 0}, {Tx: 4, Item: 0, Write: 0}, {Tx: 4, Item: 3, Write: 0}}
	if got := x.Acts(); !slices.Equal(got, want) {
		t.Errorf("Acts: got %v, want %v", got, want)
	}
}

// fullRow: so many transactions that each read two items, and the first one of which has another one to write; they do as many acts as may be done.
func fullRow(txs int) []api.Deed {
	row := deeds("0o3")
	for tx := range txs {
		row = append(row, named("as0 as1", tx, 0, 0, 0)...)
	}
	for i := range 24 {
		d := api.Deed{Kind: api.Do, Tx: i % txs, Item: i % 2}
		if d.Tx == 0 && i%4 == 0 {
			d.Item, d.Write = 3, 1
		}
		row = append(row, d)
	}
	return row
}

// TestMostActs holds 14.1: 24 acts may be done, by one transaction or by all, and not one more, though all else goes on.
func TestMostActs(t *testing.T) {
	for txs := 1; txs <= 5; txs++ {
		row := fullRow(txs)
		x, last := tableOf(t, row), txs-1
		if got := len(x.Acts()); got != 24 || api.MaxActs != 24 {
			t.Fatalf("%d acts were done", got)
		}
		refused(t, row, api.ErrFull, named("ar0 ar1 ar3 aw3 br0 br1", 0, last, 0, 0)...)
		refused(t, row, api.ErrNone, named("aw0 ar2 aw2 af2 bw1 br2 bf2", 0, last, 0, 0)...)
		tableOf(t, append(row, deeds("0s2 0o2 0f0 0f3")...))
	}
}

// TestActsStay holds 14.2: what was done stays, behind all that is done, or refused, later.
func TestActsStay(t *testing.T) {
	x := tableOf(t, deeds("0s0 1o1 0r0 1w1 0f0"))
	for _, word := range []string{"0r0", "0w1", "1w0", "0s1", "2s1", "2o0", "2f1", "1f1", "3f3"} {
		x.Do(deed(word))
		if got := actsOf(x); got != "0r0 1w1" {
			t.Fatalf("behind %s: got %s", word, got)
		}
	}
	x.Do(deed("2w0"))
	if got := actsOf(x); got != "0r0 1w1 2w0" {
		t.Errorf("got %s", got)
	}
}
