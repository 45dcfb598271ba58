package view_test

import (
	"fmt"
	"slices"
	"strings"
	"testing"

	"whenstead/api"
	"whenstead/plain"
	"whenstead/view"
)

// deed as a word tells it: "0b" is that 0 begins, "0c" that it commits, "0r2" that it reads item 2, and "0w2" that it writes it; what is behind that in a word is not looked at.
func deed(word string) api.Deed {
	tx := int(word[0] - '0')
	switch word[1] {
	case 'b':
		return api.Deed{Kind: api.Begin, Tx: tx}
	case 'c':
		return api.Deed{Kind: api.Commit, Tx: tx}
	}
	return api.Deed{Kind: api.Do, Tx: tx, Item: int(word[2] - '0'), Write: strings.IndexByte("rw", word[1])}
}

// deeds as words tell them.
func deeds(text string) []api.Deed {
	var row []api.Deed
	for _, word := range strings.Fields(text) {
		row = append(row, deed(word))
	}
	return row
}

// wordOf a deed whose numbers may be.
func wordOf(d api.Deed) string {
	switch d.Kind {
	case api.Begin:
		return fmt.Sprintf("%db", d.Tx)
	case api.Commit:
		return fmt.Sprintf("%dc", d.Tx)
	}
	return fmt.Sprintf("%d%c%d", d.Tx, "rw"[d.Write], d.Item)
}

// reads tells whether a deed is to read something.
func reads(d api.Deed) bool { return d.Kind == api.Do && d.Write == 0 }

// markOf what was told of a deed: of what reads "=" and who wrote it ("-": nobody), and none of all else that was done; "!" if the transaction was stopped by it, and "?" if it was not as things stand.
func markOf(d api.Deed, told int, err error) string {
	switch e := plain.Told(err); {
	case e == api.OK && told == -1 && reads(d):
		return "=-"
	case e == api.OK && told >= 0 && reads(d):
		return fmt.Sprintf("=%d", told)
	case e == api.OK && told == -1:
		return ""
	case e == api.ErrClash && told == 0:
		return "!"
	case e == api.ErrState && told == 0:
		return "?"
	}
	return fmt.Sprintf("(%d %v)", told, plain.Told(err))
}

// setOf things, as text: one digit each, and what is none told, too.
func setOf(s int) string {
	text := ""
	for i := range 5 {
		if s>>i&1 == 1 {
			text += fmt.Sprint(i)
		}
	}
	if s < 0 || s > 31 {
		text += fmt.Sprintf("(%d)", s)
	}
	return text
}

// edgesOf a store, as words: "0>1" is that 1 is behind 0, and "0~1" that it is over it, too.
func edgesOf(s *view.Store) string {
	behind, over := s.Edges()
	if len(behind) != 5 || len(over) != 5 {
		return fmt.Sprint("(", behind, over, ")")
	}
	var words []string
	for i := range 5 {
		if b, o := behind[i], over[i]; b < 0 || b > 31 || o&^b != 0 {
			words = append(words, fmt.Sprintf("(%d: %d %d)", i, b, o))
		}
		for j := range 5 {
			if over[i]>>j&1 == 1 {
				words = append(words, fmt.Sprintf("%d~%d", i, j))
			} else if behind[i]>>j&1 == 1 {
				words = append(words, fmt.Sprintf("%d>%d", i, j))
			}
		}
	}
	return strings.Join(words, " ")
}

// rowOf what Serial told, as text: one digit each.
func rowOf(is bool, row []int) string {
	if !is && row == nil {
		return "none"
	}
	text := ""
	for _, tx := range row {
		text += fmt.Sprint(tx)
	}
	if !is || len(row) != 5 {
		text += fmt.Sprintf("(%v %d)", is, len(row))
	}
	return text
}

// stateOf a store: all that can be asked of it.
func stateOf(s *view.Store) string {
	text := setOf(s.Committed()) + "; " + edgesOf(s) + "; " + rowOf(s.Serial())
	if s.Danger() {
		text += "; danger"
	}
	return text
}

// play a row of words, each of which has to go as its mark says.
func play(t *testing.T, text string) *view.Store {
	t.Helper()
	s := view.New()
	for i, word := range strings.Fields(text) {
		d := deed(word)
		told, err := s.Do(d)
		if got := wordOf(d) + markOf(d, told, err); got != word {
			t.Errorf("%s, deed %d: got %s, want %s", text, i, got, word)
		}
	}
	return s
}

// worked out by hand: a row of words, and how things stand behind it.
type worked struct{ text, want string }

// holdWorked: each goes so, and things stand so behind it.
func holdWorked(t *testing.T, all []worked) {
	t.Helper()
	for _, x := range all {
		if got := stateOf(play(t, x.text)); got != x.want {
			t.Errorf("%s: got %q, want %q", x.text, got, x.want)
		}
	}
}

// TestAlone holds 16.1 to 16.3 where nothing was done, and where one alone did something.
func TestAlone(t *testing.T) {
	holdWorked(t, []worked{
		{"", "; ; 01234"},
		{"0b", "; ; 01234"},
		{"0b 0c", "0; ; 01234"},
		{"4b 4c", "4; ; 01234"},
		{"0b 0r0=- 0w0 0r0=0 0c", "0; ; 01234"},
		{"4b 4w3 4w3 4r3=4 4r2=- 4r3=4 4c", "4; ; 01234"},
		{"2b 2r1=- 2r1=- 2w1 2w0 2w2 2w3 2r0=2 2r1=2 2r2=2 2r3=2", "; ; 01234"},
		{"3b 3b? 3c 3b? 3c? 3r0? 3w0?", "3; ; 01234"},
		{"1r0? 1w0? 1c? 1b 1r0=- 1c", "1; ; 01234"},
	})
}

// TestReads holds 16.1: who wrote what is read; with what stands behind whom by that.
func TestReads(t *testing.T) {
	holdWorked(t, []worked{
		// What was committed ahead of its Begin; of several the last.
		{"0b 0w1 0c 1b 1r1=0 1r0=- 1c", "01; 0>1; 01234"},
		{"3b 3w1 3c 1b 1r1=3 1c", "13; 3>1; 02314"},
		{"0b 0w0 0c 1b 1w0 1c 2b 2r0=1 2c", "012; 0>1 0>2 1>2; 01234"},
		{"1b 1w0 1c 0b 0w0 0c 2b 2r0=0 2c", "012; 0>2 1>0 1>2; 10234"},
		{"0b 0w0 0c 1b 1w1 1c 2b 2r0=0 2r1=1 2r2=- 2c", "012; 0>2 1>2; 01234"},
		{"0b 1b 0w2 1w3 1c 0c 2b 2r2=0 2r3=1 2c", "012; 0>2 1>2; 01234"},
		// It goes by who committed, not by who began, or wrote, last.
		{"1b 1w0 0b 0c 1c 2b 2r0=1 2c", "012; 1>2; 01234"},
		{"0b 0w0 0c 2b 1b 2w0 1r0=0 1w0 1c 2c! 3b 3r0=1", "01; 0>1; 01234"},
		// Not what was committed since; read ahead of that, or behind it.
		{"1b 1r0=- 0b 0w0 0c 1c", "01; 1~0; 10234"},
		{"1b 0b 0w0 0c 1r0=- 1c", "01; 1~0; 10234"},
		{"1b 0b 0w0 1r0=- 0c 1r0=- 1c", "01; 1~0; 10234"},
		{"2b 2w0 2c 1b 0b 0w0 0c 1r0=2 1c", "012; 1~0 2>0 2>1; 21034"},
		{"2b 2w0 2c 1b 0b 0w0 0c 3b 3w0 3c 1r0=2 1c", "0123; 0>3 1~0 1~3 2>0 2>1; 21034"},
		// Not what others wrote, and have not committed, or were stopped with.
		{"0b 0w0 1b 1r0=- 0r0=0 1c", "1; ; 01234"},
		{"0b 1b 1w0 1c 0w0 0w1 0c! 2b 2r0=1 2r1=- 2c", "12; 1>2; 01234"},
		// Its own writing; but not ahead of that.
		{"0b 0w0 0c 1b 1r0=0 1w0 1r0=1 1r0=1 1c", "01; 0>1; 01234"},
		{"0b 0w0 0c 1b 1w0 1r0=1 1r1=- 1c 2b 2r0=1 2c", "012; 0>1 0>2 1>2; 01234"},
		{"1b 1w0 0b 0w0 0c 1r0=1 1c!", "0; ; 01234"},
	})
}

// TestCommits holds 16.1: who is stopped, and who is not.
func TestCommits(t *testing.T) {
	holdWorked(t, []worked{
		// Another one committed what it wrote since its Begin.
		{"0b 1b 0w0 1w0 0c 1c! 1r0? 1w1? 1c? 1b?", "0; ; 01234"},
		{"0b 1b 0w0 1w0 1c 0c! 0c? 0r0?", "1; ; 01234"},
		{"0b 1b 0w0 0c 1w0 1c!", "0; ; 01234"},
		{"1b 0b 0w0 0c 1r0=- 1w3 1w0 1w2 1r0=1 1c!", "0; ; 01234"},
		{"1b 0b 0w0 0c 2b 2w0 2c 1w0 1c!", "02; 0>2; 01234"},
		{"1b 0b 0w0 0c 2b 2w1 2c 1w0 1c!", "02; ; 01234"},
		{"0b 0w0 0c 1b 2b 2w0 1w0 1c 2c! 3b 3w0 3c", "013; 0>1 1>3; 01234"},
		{"0b 1b 2b 3b 4b 4w0 3w0 2w0 1w0 0w0 3c 4c! 0c! 2c! 1c!", "3; ; 01234"},
		// Not what it only read.
		{"0b 1b 0w0 1r0=- 0c 1w1 1c", "01; 1~0; 10234"},
		{"0b 1b 0w0 0c 1r0=- 1r0=- 1c", "01; 1~0; 10234"},
		// Not what was committed ahead of its Begin.
		{"0b 0w0 0c 1b 1w0 1c 2b 2w0 2c", "012; 0>1 1>2; 01234"},
		// Not what another one wrote, and has not committed, or was stopped with.
		{"0b 1b 0w0 1w0 0w0 1c", "1; ; 01234"},
		{"0b 1b 2b 0w0 1w0 1w1 0c 1c! 2w1 2c", "02; ; 01234"},
		{"0b 1b 0w0 1w0 1w1 0c 1c! 2b 2r1=- 2r0=0 2w1 2c", "02; 0>2; 01234"},
		// Not what another one read, nor other items.
		{"0b 1b 0r0=- 1w0 0c 1c", "01; 0~1; 01234"},
		{"0b 1b 0w0 1w1 0w2 1w3 0c 1c", "01; ; 01234"},
	})
}

// TestCommitted holds 16.2: who committed, and nobody else.
func TestCommitted(t *testing.T) {
	holdWorked(t, []worked{
		{"0b 1b 2b 3b 4b", "; ; 01234"},
		{"0b 1b 2b 3b 4b 3c 1c", "13; ; 01234"},
		{"0b 0c 1b 1c 2b 2c 3b 3c 4b 4c", "01234; ; 01234"},
		{"4b 2b 0b 0c 2c 4c", "024; ; 01234"},
		{"3b 4b 3w0 4w0 3c 4c!", "3; ; 01234"},
		{"3b 4b 3w0 4w0 4c 3c!", "4; ; 01234"},
	})
}

// TestEdges holds 16.2: each kind of edges alone, and together.
func TestEdges(t *testing.T) {
	holdWorked(t, []worked{
		// Who wrote next behind it; of each item.
		{"0b 0w0 0c 1b 1w0 1c 2b 2w0 2c 3b 3w0 3c 4b 4w0 4c", "01234; 0>1 1>2 2>3 3>4; 01234"},
		{"4b 4w3 4c 3b 3w3 3c 2b 2w3 2c 1b 1w3 1c 0b 0w3 0c", "01234; 1>0 2>1 3>2 4>3; 43210"},
		{"0b 0w0 0w1 0c 1b 1w0 1c 2b 2w0 2w1 2c", "012; 0>1 0>2 1>2; 01234"},
		{"0b 0w0 0w1 0c 1b 1w0 1w1 1c 2b 2w0 2w1 2c", "012; 0>1 1>2; 01234"},
		{"0b 0w0 0w1 0c 1b 1w1 2b 2w0 2c 1c 3b 3w1 3w0 3c", "0123; 0>1 0>2 1>3 2>3; 01234"},
		{"0b 0w0 0w1 0w2 0w3 0c 1b 1w3 1c 2b 2w2 2w3 2c 3b 3w1 3w2 3c 4b 4w0 4w3 4c", "01234; 0>1 0>2 0>3 0>4 1>2 2>3 2>4; 01234"},
		// Next behind by who commits, not by who begins or writes; who is stopped, or open, is none.
		{"0b 0w0 0c 1b 2b 1w0 1w1 2w1 2w0 2c 1c! 3b 3w0 3w1 3c", "023; 0>2 2>3; 01234"},
		{"0b 0w0 0c 1b 1w0 2b 2w0 2c", "02; 0>2; 01234"},
		// Who read what it had committed ahead of their Begin, others having written it since, too.
		{"0b 0w0 0c 1b 1w0 1c 2b 2w0 2c 3b 3r0=2 3c 4b 4r0=2 4c", "01234; 0>1 0>3 0>4 1>2 1>3 1>4 2>3 2>4; 01234"},
		{"0b 0w2 0c 1b 2b 3b 4b 1r2=0 2r2=0 3r2=0 4r2=0 4c 3c 2c 1c", "01234; 0>1 0>2 0>3 0>4; 01234"},
		{"4b 4w2 4c 0b 1b 2b 3b 0r2=4 1r2=4 2r2=4 3r2=4 0c 1c 2c", "0124; 4>0 4>1 4>2; 34012"},
		// Who wrote over what it had read; over it, if they began ahead of its Commit.
		{"0b 0r0=- 0c 1b 1w0 1c", "01; 0>1; 01234"},
		{"0b 0r0=- 1b 0c 1w0 1c", "01; 0~1; 01234"},
		{"1b 0b 0r0=- 0c 1w0 1c", "01; 0~1; 01234"},
		{"0b 0r0=- 1b 1w0 1c 0c", "01; 0~1; 01234"},
		{"0b 1b 1w0 1c 0c 0r0?", "01; ; 01234"},
		{"0b 0r0=- 0r1=- 1b 0c 2b 2w1 2c 1w0 1c", "012; 0~1 0>2; 01234"},
		{"0b 0r0=- 1b 1w0 1c 2b 2w0 2c 0c 3b 3w0 3c", "0123; 0~1 0~2 0>3 1>2 2>3; 01234"},
		{"0b 0r0=- 0r0=- 0c 1b 1w0 1c 2b 2w0 2c 3b 3w1 3c", "0123; 0>1 0>2 1>2; 01234"},
		{"0b 0w0 0c 1b 1r0=0 2b 2w0 2c 1c", "012; 0>1 0>2 1~2; 01234"},
		// Its own writing is no reading; but what was read ahead of that is.
		{"0b 0w0 0r0=0 0c 1b 1w0 1c 2b 2w0 2c", "012; 0>1 1>2; 01234"},
		{"0b 0r0=- 0w0 0r0=0 0c 1b 1w0 1c 2b 2w0 2c", "012; 0>1 0>2 1>2; 01234"},
		{"0b 0w0 0c 1b 1w0 1c 2b 2w0 2r0=2 2c", "012; 0>1 1>2; 01234"},
		{"0b 0w0 0c 1b 1w0 1c 2b 2r0=1 2w0 2c", "012; 0>1 0>2 1>2; 01234"},
		{"0b 0r0=- 0w1 0r1=0 1b 0c 1w1 1c! 2b 2w0 2w1 2c", "02; 0>2; 01234"},
		// Only of, and to, what is committed.
		{"0b 0w0 0c 1b 1r0=0 2b 2w0", "0; ; 01234"},
		{"1b 1r0=- 0b 0w0 0c", "0; ; 01234"},
		{"1b 1r0=- 0b 0w0 1c", "1; ; 01234"},
		{"0b 1b 1r1=- 0w1 0w0 1w0 0c 1c!", "0; ; 01234"},
		{"0b 0r1=- 1b 2b 1w1 1w0 2w0 2c 1c! 0c", "02; ; 01234"},
		{"0b 0w1 0c 1b 1r1=0 2b 1w0 2w0 2c 1c!", "02; ; 01234"},
	})
}

// TestSerial holds 16.3: whether there is a row, and the least of all.
func TestSerial(t *testing.T) {
	holdWorked(t, []worked{
		{"4b 4w0 4c 0b 0r0=4 0c", "04; 4>0; 12340"},
		{"4b 4r0=- 0b 0w0 0c 4c", "04; 4~0; 12340"},
		{"4b 4w0 4c 3b 3r0=4 3w1 3c 2b 2r1=3 2w2 2c 1b 1r2=2 1w3 1c 0b 0r3=1 0c", "01234; 1>0 2>1 3>2 4>3; 43210"},
		{"2b 2w0 2c 0b 0r0=2 0c 3b 3w1 3c 1b 1r1=3 1c", "0123; 2>0 3>1; 20314"},
		{"4b 4w0 4c 1b 1r0=4 1c 3b 3r0=4 3c", "134; 4>1 4>3; 02413"},
		{"3b 3w3 3c 2b 2r3=3 2w2 2c 4b 4r2=2 4w1 4c 0b 0r1=4 0c", "0234; 2>4 3>2 4>0; 13240"},
		// Reading and writing cross, so that there is none, though nobody was stopped.
		{"0b 1b 0r0=- 1r1=- 0w1 1w0 0c 1c", "01; 0~1 1~0; none; danger"},
		{"0b 1b 0r0=- 0r1=- 1r0=- 1r1=- 0w1 1w0 1c 0c", "01; 0~1 1~0; none; danger"},
		{"0b 1b 0w1 1w0 0c 1r1=- 1c", "01; 1~0; 10234"},
		{"0b 1b 0w1 1w0 0r0=- 0c 1r1=- 1c", "01; 0~1 1~0; none; danger"},
		{"0b 1b 2b 0r0=- 1r1=- 2r2=- 0w2 1w0 2w1 1c 0c 2c", "012; 0~1 1~2 2~0; none; danger"},
		{"3b 4b 2b 1b 4r0=- 3r1=- 2r2=- 1r3=- 4w3 3w0 2w1 1w2 4c 3c 2c 1c", "1234; 1~4 2~1 3~2 4~3; none; danger"},
		// Also by one that only reads.
		{"0b 0r0=- 0r1=- 1b 1r1=- 1w1 1c 2b 2r0=- 2r1=1 2c 0w0 0c", "012; 0~1 1>2 2~0; none; danger"},
		{"0b 0r0=- 0r1=- 1b 1r1=- 1w1 1c 2b 2r0=- 2r1=1 0w0 0c", "01; 0~1; 01234"},
		// Others are beside a ring.
		{"1b 3b 1r0=- 3r1=- 1w1 3w0 1c 3c 0b 0r0=3 0c 2b 2c 4b", "0123; 1~3 3>0 3~1; none; danger"},
	})
}

// TestDanger holds 16.3: whether one has one over it that has one over it.
func TestDanger(t *testing.T) {
	holdWorked(t, []worked{
		{"0b 1b 2b 0r0=- 1w0 1r1=- 2w1 0c 1c 2c", "012; 0~1 1~2; 01234; danger"},
		{"0b 1b 2b 0r0=- 1w0 1r1=- 2w1 2c 1c 0c", "012; 0~1 1~2; 01234; danger"},
		{"4b 3b 2b 4r0=- 3w0 3r1=- 2w1 4c 3c 2c", "234; 3~2 4~3; 01432; danger"},
		{"0b 1b 2b 3b 4b 0r0=- 1w0 1r1=- 2w1 2r2=- 3w2 3r3=- 4w3 4c 3c 2c 1c 0c", "01234; 0~1 1~2 2~3 3~4; 01234; danger"},
		// One that is over two, or over which two are, is none.
		{"0b 1b 2b 0r0=- 1r0=- 2w0 0c 1c 2c", "012; 0~2 1~2; 01234"},
		{"0b 1b 2b 0r0=- 0r1=- 1w0 2w1 0c 1c 2c", "012; 0~1 0~2; 01234"},
		{"0b 1b 2b 3b 0r0=- 1w0 2r1=- 3w1 0c 1c 2c 3c", "0123; 0~1 2~3; 01234"},
		// Nor is one of the two steps behind alone, or both.
		{"0b 1b 0r0=- 1w0 1r1=- 0c 1c 2b 2w1 2c", "012; 0~1 1>2; 01234"},
		{"0b 0r0=- 0c 1b 2b 1w0 1r1=- 2w1 1c 2c", "012; 0>1 1~2; 01234"},
		{"0b 0r0=- 0c 1b 1w0 1r1=- 1c 2b 2w1 2c", "012; 0>1 1>2; 01234"},
		{"0b 1b 0r0=- 1w0 0c 1c 2b 2w0 2c", "012; 0~1 0>2 1>2; 01234"},
		{"0b 1b 0r0=- 1w0 1w1 0c 1c 2b 2r1=1 2c", "012; 0~1 1>2; 01234"},
		// While one of the three is open, or if it was stopped, there is none.
		{"0b 1b 2b 0r0=- 1w0 1r1=- 2w1 0c 1c", "01; 0~1; 01234"},
		{"0b 1b 2b 0r0=- 1w0 1r1=- 2w1 0c 2c", "02; ; 01234"},
		{"0b 1b 2b 0r0=- 1w0 1r1=- 2w1 1c 2c", "12; 1~2; 01234"},
		{"0b 1b 2b 3b 0r0=- 1w0 1r1=- 2w1 2w3 3w3 3c 2c! 0c 1c", "013; 0~1; 01234"},
	})
}

// TestNotLookedAt holds 16.1: Item and Write of what begins or commits are not looked at.
func TestNotLookedAt(t *testing.T) {
	for _, x := range outside(0) {
		for _, y := range outside(0) {
			s := view.New()
			for i, d := range deeds("0b 0r0 0w1 0c 1b 1r1 1w0 1c") {
				want := []int{-1, -1, -1, -1, -1, 0, -1, -1}[i]
				if d.Kind != api.Do {
					d.Item, d.Write = x, y
				}
				if told, err := s.Do(d); told != want || err != nil {
					t.Fatalf("%v: got %d, %v", d, told, err)
				}
			}
			if got := stateOf(s); got != "01; 0>1; 01234" {
				t.Fatalf("%d, %d: got %s", x, y, got)
			}
		}
	}
}

// TestAsNumbers holds 16.2 and 16.3: what is told, as it is told: sets as bits, one for each of five.
func TestAsNumbers(t *testing.T) {
	s := play(t, "4b 4w3 4c 0b 2b 0r3=4 2w3 2c 0c 3b 3w3 3c")
	if got := s.Committed(); got != 1+4+8+16 {
		t.Errorf("Committed: got %d", got)
	}
	behind, over := s.Edges()
	if want := []int{4 + 8, 0, 8, 0, 1 + 4}; !slices.Equal(behind, want) {
		t.Errorf("behind: got %v, want %v", behind, want)
	}
	if want := []int{4, 0, 0, 0, 0}; !slices.Equal(over, want) {
		t.Errorf("over: got %v, want %v", over, want)
	}
	if is, row := s.Serial(); !is || !slices.Equal(row, []int{1, 4, 0, 2, 3}) {
		t.Errorf("Serial: got %v, %v", is, row)
	}
	if s.Danger() {
		t.Error("danger")
	}
	s = play(t, "0b 1b 0r0=- 1r1=- 0w1 1w0 0c 1c")
	if is, row := s.Serial(); is || row != nil {
		t.Errorf("Serial: got %v, %v", is, row)
	}
}

// TestNothingYet holds P2 and 16.2: at first there are five empty sets each.
func TestNothingYet(t *testing.T) {
	behind, over := view.New().Edges()
	if none := make([]int, 5); !slices.Equal(behind, none) || !slices.Equal(over, none) {
		t.Errorf("got %v, %v", behind, over)
	}
}

// namedText: words in which A, B and D are transactions, and X and Y items.
func namedText(text string, a, b, d, x, y int) string {
	return strings.NewReplacer("A", fmt.Sprint(a), "B", fmt.Sprint(b), "D", fmt.Sprint(d), "X", fmt.Sprint(x), "Y", fmt.Sprint(y)).Replace(text)
}

// sortedWords of a text.
func sortedWords(text string) string {
	words := strings.Fields(text)
	slices.Sort(words)
	return strings.Join(words, " ")
}

// threes: what three do with two items; the edges behind that, and whether there is a row, and danger.
func threes() []struct {
	text, edges string
	serial      bool
	danger      bool
} {
	return []struct {
		text, edges string
		serial      bool
		danger      bool
	}{
		{"Ab AwX Ac Bb BwX Bc Db DwX Dc", "A>B B>D", true, false},
		{"Ab AwX AwY Ac Bb BwX Bc Db DwY DwX Dc", "A>B A>D B>D", true, false},
		{"Ab AwX Ac Bb BwX Bc Db DrX=B Dc", "A>B A>D B>D", true, false},
		{"Ab Bb AwX BwX Ac Bc! Db DrX=A DwX DrX=D Dc", "A>D", true, false},
		{"Ab ArX=- ArY=- Bb BwX Bc Ac Db DwY Dc", "A~B A>D", true, false},
		{"Ab AwX ArX=A Ac Bb BrX=A Db DwX Dc Bc", "A>B A>D B~D", true, false},
		{"Ab Bb ArX=- BrY=- AwY BwX Ac Bc Db DrX=B DrY=A Dc", "A~B B~A A>D B>D", false, true},
		{"Ab ArX=- ArY=- Bb BrY=- BwY Bc Db DrX=- DrY=B Dc AwX Ac", "A~B B>D D~A", false, true},
		{"Ab Bb Db ArX=- BwX BrY=- DwY Bc Dc Ac", "A~B B~D", true, true},
		{"Ab Bb ArX=- BwX BrY=- Ac Bc Db DwY Dc", "A~B B>D", true, false},
		{"Db DwX DwY Dc Bb BrX=D Ab AwX Ac BrX=D BrY=D Bc", "D>A D>B B~A", true, false},
		{"Db Bb BwX Ab AwX Bc DwY DrX=- Ac! Dc", "D~B", true, false},
	}
}

// TestEachThree holds 16.1 to 16.3 at all three transactions, and all two items.
func TestEachThree(t *testing.T) {
	for _, x := range threes() {
		for n := range 5 * 5 * 5 * 4 * 4 {
			a, b, d, item, other := n/400, n/80%5, n/16%5, n/4%4, n%4
			if a == b || a == d || b == d || item == other {
				continue
			}
			s := play(t, namedText(x.text, a, b, d, item, other))
			if got, want := edgesOf(s), sortedWords(namedText(x.edges, a, b, d, 0, 0)); sortedWords(got) != sortedWords(want) {
				t.Fatalf("%s: got %s, want %s", namedText(x.text, a, b, d, item, other), got, want)
			}
			if is, _ := s.Serial(); is != x.serial || s.Danger() != x.danger {
				t.Fatalf("%s: got %s", namedText(x.text, a, b, d, item, other), stateOf(s))
			}
		}
	}
}

// TestAll holds 16.1 to 16.3: all of them on one item, and on all of them.
func TestAll(t *testing.T) {
	for item := range 4 {
		x := fmt.Sprint(item)
		holdWorked(t, []worked{
			{strings.ReplaceAll("0b 1b 2b 3b 4b 0rX=- 1rX=- 2rX=- 3rX=- 4rX=- 4wX 4c 3c 2c 1c 0c", "X", x), "01234; 0~4 1~4 2~4 3~4; 01234"},
			{strings.ReplaceAll("0b 1b 2b 3b 4b 0rX=- 1rX=- 2rX=- 3rX=- 4rX=- 0wX 4c 3c 2c 1c 0c", "X", x), "01234; 1~0 2~0 3~0 4~0; 12340"},
			{strings.ReplaceAll("0b 0wX 0c 1b 1rX=0 1wX 1c 2b 2rX=1 2wX 2c 3b 3rX=2 3wX 3c 4b 4rX=3 4wX 4c", "X", x), "01234; 0>1 0>2 0>3 0>4 1>2 1>3 1>4 2>3 2>4 3>4; 01234"},
		})
	}
	holdWorked(t, []worked{
		{"0b 1b 2b 3b 4b 0r0=- 0r1=- 0r2=- 0r3=- 1w0 2w1 3w2 4w3 0c 1c 2c 3c 4c", "01234; 0~1 0~2 0~3 0~4; 01234"},
		{"0b 1b 2b 3b 0r1=- 0w0 1r2=- 1w1 2r3=- 2w2 3r0=- 3w3 0c 1c 2c 3c 4b 4r0=0 4r1=1 4r2=2 4r3=3 4c", "01234; 0~1 0>4 1~2 1>4 2~3 2>4 3~0 3>4; none; danger"},
		{"4b 4w0 4w1 4w2 4w3 4c 3b 3r0=4 3r1=4 3r2=4 3r3=4 3c 2b 2w0 2w1 2w2 2w3 2c 1b 1r0=2 1r1=2 1r2=2 1r3=2 1c", "1234; 2>1 3>2 4>1 4>2 4>3; 04321"},
	})
}
