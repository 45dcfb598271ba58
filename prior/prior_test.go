package prior_test

import (
	"fmt"
	"slices"
	"strings"
	"testing"

	"whenstead/api"
	"whenstead/plain"
	"whenstead/prior"
)

// act as a word tells it: "0r2" is that 0 reads item 2, and "0w2" that it writes it; what is behind that in a word is not looked at.
func act(word string) api.Act {
	return api.Act{Tx: int(word[0] - '0'), Item: int(word[2] - '0'), Write: strings.IndexByte("rw", word[1])}
}

// acts as words tell them.
func acts(text string) []api.Act {
	var row []api.Act
	for _, word := range strings.Fields(text) {
		row = append(row, act(word))
	}
	return row
}

// namedText: words in which a is the lesser transaction, b the greater one, and x and y are items.
func namedText(text string, a, b, x, y int) string {
	return strings.NewReplacer("a", fmt.Sprint(a), "b", fmt.Sprint(b), "x", fmt.Sprint(x), "y", fmt.Sprint(y)).Replace(text)
}

// named: acts as such words tell them.
func named(text string, a, b, x, y int) []api.Act { return acts(namedText(text, a, b, x, y)) }

// wordOf an act.
func wordOf(a api.Act) string { return fmt.Sprintf("%d%c%d", a.Tx, "rw"[a.Write], a.Item) }

// wordsOf acts.
func wordsOf(row []api.Act) string {
	var words []string
	for _, a := range row {
		words = append(words, wordOf(a))
	}
	return strings.Join(words, " ")
}

// markOf what was told of an act: none if it was done, "-" if it was skipped, "!" if its transaction was stopped by it, "s" if it was stopped already, and "f" if there were as many acts as may be.
func markOf(is bool, err error) string {
	switch e := plain.Told(err); {
	case e == api.OK && is:
		return ""
	case is:
		return "(true)"
	case e == api.OK:
		return "-"
	case e == api.ErrClash:
		return "!"
	case e == api.ErrState:
		return "s"
	case e == api.ErrFull:
		return "f"
	}
	return "(" + plain.Told(err).Error() + ")"
}

// setOf things, as text: one digit each, and what is none told, too.
func setOf(s int) string {
	text := ""
	for i := range 5 {
		if s>>i&1 == 1 {
			text += fmt.Sprint(i)
		}
	}
	if s < 0 || s > 31 {
		text += fmt.Sprintf("(%d)", s)
	}
	return text
}

// stateOf a gate: all that can be asked of it.
func stateOf(g *prior.Gate) string { return wordsOf(g.Acts()) + "; " + setOf(g.Dead()) }

// play a row of words, and hold the gate, behind each, against what their marks say: what has no mark was done, and who has "!" is stopped.
func play(t *testing.T, skips bool, text string) *prior.Gate {
	t.Helper()
	g, done, dead := prior.New(skips), []string{}, [5]string{}
	for i, word := range strings.Fields(text) {
		is, err := g.Do(act(word))
		if got := markOf(is, err); got != word[3:] {
			t.Errorf("skips %v, %s, act %d: got %s%s", skips, text, i, word[:3], got)
		}
		if word[3:] == "" {
			done = append(done, word)
		}
		if word[3:] == "!" {
			dead[word[0]-'0'] = word[:1]
		}
		if got, want := stateOf(g), strings.Join(done, " ")+"; "+strings.Join(dead[:], ""); got != want {
			t.Errorf("skips %v, %s, behind act %d: got %s, want %s", skips, text, i, got, want)
		}
	}
	return g
}

// workedBoth out by hand: rows that go alike at gates that skip and at such that don't.
func workedBoth() []string {
	return []string{
		// Nothing; and one alone.
		"",
		"0r0 0w0 0r0 0w0 0w0 0r0",
		"4w3 4w3 4r3 4w3 4r2 4w2 4r2",
		"2w0 2w1 2r0 2w2 2r3 2r1 2w3 2w0 2r2",
		// Lesser ones, as they begin.
		"0w1 1w1 2r1 2w1 3w1 4r1 4w1",
		"0r2 1r2 4w2",
		"0w0 4r0 4w0 4r0",
		"1r3 1w3 3r3 3w3 3r3",
		// Who reads is in nobody's way who reads.
		"4r0 3r0 2r0 1r0 0r0 4r0 0r0",
		// Other items.
		"4w0 3w1 2w2 1w3 3r1 2r2 1r3 4r0",
		"4r3 4w3 0r0 0w0 0r1 0w1 0r2 0w2",
		// It reads what a greater one wrote.
		"1w0 0r0! 0r0s 0w0s 0r1s 1r0 1w0",
		"4w3 3r3! 2r3! 1r3! 0r3! 4r3",
		"0w2 0r2 3w2 0r2! 3r2 1r2! 4r2",
		"3w1 2r0 2r1! 2r0s 3r0",
		// It writes what a greater one read.
		"1r0 0w0! 0w0s 0r0s 0w3s 1w0",
		"4r2 3w2! 2w2! 1w2! 0w2! 4w2",
		"0r1 0w1 2r1 0r1 0w1! 1w1! 2w1 3w1",
		// It writes what a greater one both read and wrote.
		"3r0 3w0 1w0! 1r0s",
		"3w0 3r0 1w0! 1r0s",
		"2r3 4w3 1w3! 0w3!",
		"4w3 4r3 2w3! 3w3! 0w3!",
		"2r1 0r1 3w1 0w1! 1w1!",
		// What a stopped one did counts still.
		"2w0 2r1 4w2 2r2! 1r0! 0w1! 3r0 3w1",
		"1w1 1r0 3r3 1w3! 0r1! 2r1 2w0",
		"2r0 3w1 2r1! 1w0! 2w0s 3w0 3r0",
		// What was refused was not done.
		"4w0 2r0! 4r1 3w1! 2w1s 2r2s 1r1 1w2",
		"2w0 1r0! 0r1 0w1 2r1 2w1",
	}
}

// TestWorkedBoth holds 15.1 at such rows.
func TestWorkedBoth(t *testing.T) {
	for _, text := range workedBoth() {
		play(t, true, text)
		play(t, false, text)
	}
}

// workedApart: rows that do not go alike, as they go if the gate skips, and if it does not.
func workedApart() [][2]string {
	return [][2]string{
		// It writes what a greater one wrote, and none read.
		{"1w0 0w0- 0w0- 0r1", "1w0 0w0! 0w0s 0r1s"},
		{"4w3 3w3- 2w3- 1w3- 0w3- 4w3 4r3", "4w3 3w3! 2w3! 1w3! 0w3! 4w3 4r3"},
		{"2w1 2w1 1w1- 1w2 2r2 1w2!", "2w1 2w1 1w1! 1w2s 2r2 1w2s"},
		{"4w0 2r0! 1w0- 4r1 3w1! 2w1s 1r1", "4w0 2r0! 1w0! 4r1 3w1! 2w1s 1r1s"},
		// It read, or wrote, the item itself, or a lesser one did.
		{"1r0 3w0 1w0- 1r0! 1w0s", "1r0 3w0 1w0! 1r0s 1w0s"},
		{"1w0 3w0 1w0- 3r0 1w0!", "1w0 3w0 1w0! 3r0 1w0s"},
		{"0r0 0w0 3w0 1w0- 2w0- 3w0", "0r0 0w0 3w0 1w0! 2w0! 3w0"},
		{"1r2 1w2 2r2 3w2 2w2- 1w2!", "1r2 1w2 2r2 3w2 2w2! 1w2!"},
		// What is skipped counts as none: none has it in the way.
		{"3w0 2w0- 1w0- 1r1 4r0 2w0! 1w0!", "3w0 2w0! 1w0! 1r1s 4r0 2w0s 1w0s"},
		{"4w1 2w1- 2r0 0r0 0w1- 0r1!", "4w1 2w1! 2r0s 0r0 0w1! 0r1s"},
		{"2w0 1w0- 2r1 1r2 1w0- 0w2!", "2w0 1w0! 2r1 1r2s 1w0s 0w2"},
		// Read behind that by a greater one: then it is stopped.
		{"3w2 0w2- 3r2 0w2! 1w2! 0r1s", "3w2 0w2! 3r2 0w2s 1w2! 0r1s"},
		{"2w0 1w0- 4r0 1w0! 2w0! 3w0! 4w0", "2w0 1w0! 4r0 1w0s 2w0! 3w0! 4w0"},
		// Written by one that was stopped since.
		{"2w0 3w1 2r1! 1w0- 0w0- 0r0! 2w0s", "2w0 3w1 2r1! 1w0! 0w0! 0r0s 2w0s"},
		// Other items are in nobody's way.
		{"4w0 4r1 3w0- 3w2 2w2- 2w3 1w3- 0r3!", "4w0 4r1 3w0! 3w2s 2w2 2w3 1w3! 0r3!"},
	}
}

// TestWorkedApart holds 15.1 at such rows.
func TestWorkedApart(t *testing.T) {
	for _, x := range workedApart() {
		play(t, true, x[0])
		play(t, false, x[1])
	}
}

// TestNothingDone holds 15.1: nothing was done, and nobody was stopped, at first.
func TestNothingDone(t *testing.T) {
	for _, skips := range []bool{true, false} {
		g := prior.New(skips)
		if got := g.Acts(); len(got) != 0 {
			t.Errorf("Acts: got %v", got)
		}
		if got := g.Dead(); got != 0 {
			t.Errorf("Dead: got %d", got)
		}
	}
}

// TestAsNumbers holds 15.1: what is told, as it is told: acts as chapter 13 has them, and a set as bits.
func TestAsNumbers(t *testing.T) {
	for _, skips := range []bool{true, false} {
		g := play(t, skips, "4w3 2r0 3r3! 4r1 1w0! 0r0")
		want := []api.Act{{Tx: 4, Item: 3, Write: 1}, {Tx: 2, Item: 0, Write: 0}, {Tx: 4, Item: 1, Write: 0}, {Tx: 0, Item: 0, Write: 0}}
		if got := g.Acts(); !slices.Equal(got, want) {
			t.Errorf("Acts: got %v, want %v", got, want)
		}
		if got := g.Dead(); got != 8+2 {
			t.Errorf("Dead: got %d", got)
		}
	}
}

// TestEachStopped holds 15.1: each but the greatest may be stopped, alone, and all of them; each has its bit.
func TestEachStopped(t *testing.T) {
	for tx := range 4 {
		g := play(t, tx%2 == 0, namedText("bwx arx!", tx, tx+1, 0, 0))
		if got := g.Dead(); got != 1<<tx {
			t.Errorf("of %d: got %d", tx, got)
		}
	}
	for item := range 4 {
		for _, skips := range []bool{true, false} {
			g := play(t, skips, strings.ReplaceAll("4wx 0rx! 2rx! 3rx! 1rx!", "x", fmt.Sprint(item)))
			if got := g.Dead(); got != 15 {
				t.Errorf("of all: got %d", got)
			}
		}
	}
}

// pairWords: of two transactions and two items, as they go if the gate skips, and if it does not.
func pairWords() [][2]string {
	alike := func(text string) [2]string { return [2]string{text, text} }
	return [][2]string{
		alike("bwx arx! bwx brx"), alike("brx awx! bwx brx"), alike("brx arx"), {"bwx awx- bwx brx", "bwx awx! bwx brx"},
		alike("awx brx"), alike("arx bwx"), alike("arx brx"), alike("awx bwx"),
		alike("bwx ary"), alike("brx awy"), alike("brx ary"), alike("bwx awy"),
		alike("brx bwx awx!"), alike("bwx brx awx!"), alike("arx bwx arx!"), alike("awx brx awx!"),
		{"arx bwx awx- ary", "arx bwx awx! arys"}, {"bwx awx- brx awx!", "bwx awx! brx awxs"},
		alike("bwx bry arx! awys bwy"), alike("bwx awy arx! bry bwy brx"), alike("ary brx awx! bwy bry"),
	}
}

// TestEachPair holds 15.1 at all pairs of transactions, and of items.
func TestEachPair(t *testing.T) {
	for _, texts := range pairWords() {
		for b := range 5 {
			for a := range b {
				for x := range 4 {
					for y := range 4 {
						if x != y {
							play(t, true, namedText(texts[0], a, b, x, y))
							play(t, false, namedText(texts[1], a, b, x, y))
						}
					}
				}
			}
		}
	}
}

// TestItself holds 15.1: what one did itself is never in its own way.
func TestItself(t *testing.T) {
	for tx := range 5 {
		for item := range 4 {
			for _, skips := range []bool{true, false} {
				play(t, skips, namedText("arx arx awx awx arx awx ary awy arx", tx, 0, item, (item+1)%4))
			}
		}
	}
}

// TestOneItem holds 15.1: all of them on one item, and one on all of them.
func TestOneItem(t *testing.T) {
	for item := range 4 {
		for _, texts := range [][2]string{
			{"0wx 0rx 1wx 1rx 2wx 3wx 2wx- 2rx! 3wx 4rx 3wx! 3rxs 4wx", "0wx 0rx 1wx 1rx 2wx 3wx 2wx! 2rxs 3wx 4rx 3wx! 3rxs 4wx"},
			{"2wx 0wx- 1wx- 3rx 4rx 1wx! 2rx 2wx! 0rx! 3wx! 4wx", "2wx 0wx! 1wx! 3rx 4rx 1wxs 2rx 2wx! 0rxs 3wx! 4wx"},
		} {
			play(t, true, strings.ReplaceAll(texts[0], "x", fmt.Sprint(item)))
			play(t, false, strings.ReplaceAll(texts[1], "x", fmt.Sprint(item)))
		}
	}
	for tx := range 5 {
		play(t, tx%2 == 1, namedText("aw0 ar1 aw2 ar3 ar0 aw1 ar2 aw3", tx, 0, 0, 0))
	}
}
