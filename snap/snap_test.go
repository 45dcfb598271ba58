package snap_test

import (
	"fmt"
	"slices"
	"strings"
	"testing"

	"whenstead/api"
	"whenstead/plain"
	"whenstead/snap"
)

// pay is a move by which a sum is sent.
func pay(from, to, sum int) api.Move { return api.Move{Kind: api.Pay, From: from, To: to, Sum: sum} }

// come is a move by which what waits first on a way comes.
func come(from, to int) api.Move { return api.Move{Kind: api.Come, From: from, To: to} }

// mark is a move by which a process begins to note.
func mark(from int) api.Move { return api.Move{Kind: api.Mark, From: from} }

// has: a list of what each has.
func has(money ...int) []int { return money }

// bankOf money that may be.
func bankOf(t *testing.T, money []int) *snap.Bank {
	t.Helper()
	b, err := snap.New(money)
	if err != nil || b == nil {
		t.Fatalf("New(%v): %v, %v", money, b, err)
	}
	return b
}

// waysOf a bank on which something waits, as text: from>to and what waits.
func waysOf(b *snap.Bank) string {
	var all []string
	for from := range b.Money() {
		for to := range b.Money() {
			if w := b.Way(from, to); w != nil {
				all = append(all, fmt.Sprintf("%d>%d%v", from, to, w))
			}
		}
	}
	return strings.Join(all, " ")
}

// notedOf a bank, as text.
func notedOf(b *snap.Bank) string {
	money, ways, all := b.Noted()
	if !all && money == nil && ways == nil {
		return "no"
	}
	return fmt.Sprint(money, ways, all)
}

// stateOf a bank: all that can be asked of it, as text.
func stateOf(b *snap.Bank) string {
	return fmt.Sprint(b.Money(), " ", waysOf(b), " ", notedOf(b))
}

// step of a worked-out row of moves, and how the bank stands behind it.
type step struct {
	m     api.Move
	err   api.Errno
	money []int
	ways  string
	noted string
}

// good step: one that is done.
func good(m api.Move, money []int, ways, noted string) step {
	return step{m: m, money: money, ways: ways, noted: noted}
}

// worked out by hand: a bank, and a row of steps.
type worked struct {
	name  string
	money []int
	steps []step
}

// workedPays: rows in which nobody notes.
func workedPays() []worked {
	return []worked{
		{"there and back", has(10, 5), []step{
			good(pay(0, 1, 4), has(6, 5), "0>1[4]", "no"),
			good(come(0, 1), has(6, 9), "", "no"),
			good(pay(1, 0, 9), has(6, 0), "1>0[9]", "no"),
			{come(0, 1), api.ErrNone, has(6, 0), "1>0[9]", "no"},
			good(come(1, 0), has(15, 0), "", "no"),
		}},
		{"in the order in which they were sent", has(10, 0), []step{
			good(pay(0, 1, 3), has(7, 0), "0>1[3]", "no"),
			good(pay(0, 1, 1), has(6, 0), "0>1[3 1]", "no"),
			good(pay(0, 1, 2), has(4, 0), "0>1[3 1 2]", "no"),
			good(come(0, 1), has(4, 3), "0>1[1 2]", "no"),
			good(pay(0, 1, 4), has(0, 3), "0>1[1 2 4]", "no"),
			good(come(0, 1), has(0, 4), "0>1[2 4]", "no"),
			good(come(0, 1), has(0, 6), "0>1[4]", "no"),
			good(come(0, 1), has(0, 10), "", "no"),
			{come(0, 1), api.ErrNone, has(0, 10), "", "no"},
		}},
		{"several ways at once", has(9, 9, 9), []step{
			good(pay(0, 1, 1), has(8, 9, 9), "0>1[1]", "no"),
			good(pay(0, 2, 2), has(6, 9, 9), "0>1[1] 0>2[2]", "no"),
			good(pay(1, 0, 3), has(6, 6, 9), "0>1[1] 0>2[2] 1>0[3]", "no"),
			good(pay(1, 2, 4), has(6, 2, 9), "0>1[1] 0>2[2] 1>0[3] 1>2[4]", "no"),
			good(pay(2, 0, 5), has(6, 2, 4), "0>1[1] 0>2[2] 1>0[3] 1>2[4] 2>0[5]", "no"),
			good(pay(2, 1, 4), has(6, 2, 0), "0>1[1] 0>2[2] 1>0[3] 1>2[4] 2>0[5] 2>1[4]", "no"),
			good(come(1, 2), has(6, 2, 4), "0>1[1] 0>2[2] 1>0[3] 2>0[5] 2>1[4]", "no"),
			good(come(2, 0), has(11, 2, 4), "0>1[1] 0>2[2] 1>0[3] 2>1[4]", "no"),
			good(come(0, 1), has(11, 3, 4), "0>2[2] 1>0[3] 2>1[4]", "no"),
		}},
		{"nothing is paid, and comes", has(0, 0), []step{
			good(pay(0, 1, 0), has(0, 0), "0>1[0]", "no"),
			good(pay(0, 1, 0), has(0, 0), "0>1[0 0]", "no"),
			good(come(0, 1), has(0, 0), "0>1[0]", "no"),
			good(come(0, 1), has(0, 0), "", "no"),
			{come(0, 1), api.ErrNone, has(0, 0), "", "no"},
			{pay(0, 1, 1), api.ErrNone, has(0, 0), "", "no"},
		}},
		{"more than one may have at first", has(1000, 1000), []step{
			good(pay(0, 1, 1000), has(0, 1000), "0>1[1000]", "no"),
			good(come(0, 1), has(0, 2000), "", "no"),
			{pay(1, 0, 1001), api.ErrRange, has(0, 2000), "", "no"},
			good(pay(1, 0, 1000), has(0, 1000), "1>0[1000]", "no"),
			good(pay(1, 0, 1000), has(0, 0), "1>0[1000 1000]", "no"),
			{pay(1, 0, 1), api.ErrNone, has(0, 0), "1>0[1000 1000]", "no"},
		}},
	}
}

// workedNotes: rows in which somebody notes.
func workedNotes() []worked {
	return []worked{
		{"one process alone", has(7), []step{
			good(mark(0), has(7), "", "[7] [[0]] true"),
			{mark(0), api.ErrState, has(7), "", "[7] [[0]] true"},
		}},
		{"two, and nothing on the way", has(4, 6), []step{
			good(mark(1), has(4, 6), "1>0[-1]", "no"),
			good(come(1, 0), has(4, 6), "0>1[-1]", "no"),
			{mark(0), api.ErrState, has(4, 6), "0>1[-1]", "no"},
			good(come(0, 1), has(4, 6), "", "[4 6] [[0 0] [0 0]] true"),
			{come(0, 1), api.ErrNone, has(4, 6), "", "[4 6] [[0 0] [0 0]] true"},
		}},
		{"ahead of the note, behind it, and behind the mark", has(20, 20), []step{
			good(pay(0, 1, 1), has(19, 20), "0>1[1]", "no"),
			good(pay(0, 1, 2), has(17, 20), "0>1[1 2]", "no"),
			good(come(0, 1), has(17, 21), "0>1[2]", "no"),
			good(mark(1), has(17, 21), "0>1[2] 1>0[-1]", "no"),
			good(pay(0, 1, 4), has(13, 21), "0>1[2 4] 1>0[-1]", "no"),
			good(come(0, 1), has(13, 23), "0>1[4] 1>0[-1]", "no"),
			good(pay(1, 0, 8), has(13, 15), "0>1[4] 1>0[-1 8]", "no"),
			good(come(1, 0), has(13, 15), "0>1[4 -1] 1>0[8]", "no"),
			good(pay(0, 1, 5), has(8, 15), "0>1[4 -1 5] 1>0[8]", "no"),
			good(come(1, 0), has(16, 15), "0>1[4 -1 5]", "no"),
			good(come(0, 1), has(16, 19), "0>1[-1 5]", "no"),
			good(come(0, 1), has(16, 19), "0>1[5]", "[13 21] [[0 0] [6 0]] true"),
			good(come(0, 1), has(16, 24), "", "[13 21] [[0 0] [6 0]] true"),
			good(pay(1, 0, 24), has(16, 0), "1>0[24]", "[13 21] [[0 0] [6 0]] true"),
			good(come(1, 0), has(40, 0), "", "[13 21] [[0 0] [6 0]] true"),
			{mark(0), api.ErrState, has(40, 0), "", "[13 21] [[0 0] [6 0]] true"},
		}},
		{"the mark waits behind what waits already", has(9, 0), []step{
			good(pay(0, 1, 3), has(6, 0), "0>1[3]", "no"),
			good(pay(0, 1, 0), has(6, 0), "0>1[3 0]", "no"),
			good(mark(0), has(6, 0), "0>1[3 0 -1]", "no"),
			good(come(0, 1), has(6, 3), "0>1[0 -1]", "no"),
			good(come(0, 1), has(6, 3), "0>1[-1]", "no"),
			good(come(0, 1), has(6, 3), "1>0[-1]", "no"),
			good(come(1, 0), has(6, 3), "", "[6 3] [[0 0] [0 0]] true"),
		}},
		{"who notes since a mark came, and who did already", has(5, 5, 5), []step{
			good(pay(2, 1, 2), has(5, 5, 3), "2>1[2]", "no"),
			good(mark(0), has(5, 5, 3), "0>1[-1] 0>2[-1] 2>1[2]", "no"),
			good(come(0, 1), has(5, 5, 3), "0>2[-1] 1>0[-1] 1>2[-1] 2>1[2]", "no"),
			good(come(2, 1), has(5, 7, 3), "0>2[-1] 1>0[-1] 1>2[-1]", "no"),
			good(come(1, 2), has(5, 7, 3), "0>2[-1] 1>0[-1] 2>0[-1] 2>1[-1]", "no"),
			good(pay(2, 0, 3), has(5, 7, 0), "0>2[-1] 1>0[-1] 2>0[-1 3] 2>1[-1]", "no"),
			good(come(0, 2), has(5, 7, 0), "1>0[-1] 2>0[-1 3] 2>1[-1]", "no"),
			good(come(1, 0), has(5, 7, 0), "2>0[-1 3] 2>1[-1]", "no"),
			good(come(2, 0), has(5, 7, 0), "2>0[3] 2>1[-1]", "no"),
			good(come(2, 0), has(8, 7, 0), "2>1[-1]", "no"),
			good(come(2, 1), has(8, 7, 0), "", "[5 5 3] [[0 0 0] [0 0 2] [0 0 0]] true"),
		}},
		{"by To and From", has(30, 30, 30), []step{
			good(pay(1, 0, 1), has(30, 29, 30), "1>0[1]", "no"),
			good(pay(2, 0, 2), has(30, 29, 28), "1>0[1] 2>0[2]", "no"),
			good(pay(2, 1, 4), has(30, 29, 24), "1>0[1] 2>0[2] 2>1[4]", "no"),
			good(mark(0), has(30, 29, 24), "0>1[-1] 0>2[-1] 1>0[1] 2>0[2] 2>1[4]", "no"),
			good(come(0, 1), has(30, 29, 24), "0>2[-1] 1>0[1 -1] 1>2[-1] 2>0[2] 2>1[4]", "no"),
			good(pay(2, 1, 8), has(30, 29, 16), "0>2[-1] 1>0[1 -1] 1>2[-1] 2>0[2] 2>1[4 8]", "no"),
			good(come(0, 2), has(30, 29, 16), "1>0[1 -1] 1>2[-1] 2>0[2 -1] 2>1[4 8 -1]", "no"),
			good(come(2, 1), has(30, 33, 16), "1>0[1 -1] 1>2[-1] 2>0[2 -1] 2>1[8 -1]", "no"),
			good(come(2, 0), has(32, 33, 16), "1>0[1 -1] 1>2[-1] 2>0[-1] 2>1[8 -1]", "no"),
			good(come(2, 1), has(32, 41, 16), "1>0[1 -1] 1>2[-1] 2>0[-1] 2>1[-1]", "no"),
			good(come(1, 0), has(33, 41, 16), "1>0[-1] 1>2[-1] 2>0[-1] 2>1[-1]", "no"),
			good(come(1, 0), has(33, 41, 16), "1>2[-1] 2>0[-1] 2>1[-1]", "no"),
			good(come(1, 2), has(33, 41, 16), "2>0[-1] 2>1[-1]", "no"),
			good(come(2, 1), has(33, 41, 16), "2>0[-1]", "no"),
			good(come(2, 0), has(33, 41, 16), "", "[30 29 16] [[0 1 2] [0 0 12] [0 0 0]] true"),
		}},
	}
}

// TestWorkedOut holds 9.1, 9.2 and 9.3 at banks worked out by hand.
func TestWorkedOut(t *testing.T) {
	for _, w := range slices.Concat(workedPays(), workedNotes()) {
		b := bankOf(t, w.money)
		if got, want := stateOf(b), fmt.Sprint(w.money, "  no"); got != want {
			t.Errorf("%s, at first: got %s, want %s", w.name, got, want)
		}
		for i, s := range w.steps {
			err := b.Do(s.m)
			if plain.Told(err) != s.err {
				t.Fatalf("%s, step %d, %v: got %v, want %v", w.name, i, s.m, err, s.err)
			}
			if got, want := stateOf(b), fmt.Sprint(s.money, " ", s.ways, " ", s.noted); got != want {
				t.Fatalf("%s, step %d, %v: got %s, want %s", w.name, i, s.m, got, want)
			}
		}
	}
}

// TestOneAlone holds 9.1 and 9.3: a process that is alone has no way, and has noted all when it noted.
func TestOneAlone(t *testing.T) {
	for _, much := range []int{0, 1, 999, api.MaxMoney} {
		b := bankOf(t, has(much))
		for _, m := range []api.Move{pay(0, 0, 0), pay(0, 0, much), come(0, 0)} {
			refused(t, b, m, api.ErrClash)
		}
		if got := b.Way(0, 0); got != nil {
			t.Errorf("%d: from itself: %v", much, got)
		}
		done(t, b, mark(0))
		if got, want := stateOf(b), fmt.Sprintf("[%d]  [%d] [[0]] true", much, much); got != want {
			t.Errorf("got %s, want %s", got, want)
		}
	}
}

// done: a move that may be.
func done(t *testing.T, b *snap.Bank, moves ...api.Move) {
	t.Helper()
	for _, m := range moves {
		if err := b.Do(m); err != nil {
			t.Fatalf("%v: %v", m, err)
		}
	}
}

// TestMostProcesses holds 9.1 to 9.3 at as many processes as may be, who have as much as may be: all pay all, somebody notes, and all marks come.
func TestMostProcesses(t *testing.T) {
	const n = api.MaxProcs
	for first := range n {
		b := bankOf(t, slices.Repeat(has(api.MaxMoney), n))
		for from := range n {
			for to := range n {
				if from != to {
					done(t, b, pay(from, to, 10*from+to+1))
				}
			}
		}
		before := b.Money()
		done(t, b, mark(first))
		// All others note by the mark that first sent; what first sent came to them by then.
		want := make([][]int, n)
		for i := range want {
			want[i] = make([]int, n)
		}
		noted := slices.Clone(before)
		for to := range n {
			if to == first {
				continue
			}
			done(t, b, come(first, to), come(first, to))
			noted[to] += 10*first + to + 1
		}
		for to := range n {
			for from := range n {
				if from == to || from == first {
					continue
				}
				want[to][from] = 10*from + to + 1
				if money, ways, all := b.Noted(); money != nil || ways != nil || all {
					t.Fatalf("ahead of the mark from %d to %d: %v %v %v", from, to, money, ways, all)
				}
				done(t, b, come(from, to), come(from, to))
			}
		}
		if got := notedOf(b); got != fmt.Sprint(noted, want, true) {
			t.Errorf("%d first: got %s, want %v %v", first, got, noted, want)
		}
		if got := waysOf(b); got != "" {
			t.Errorf("%d first: still waits: %s", first, got)
		}
	}
}

// TestFullWay holds 9.1: as many wait on a way as may be, and one more is refused; others' ways, and that back, are not full by it.
func TestFullWay(t *testing.T) {
	b := bankOf(t, has(100, 100, 100))
	for i := range api.MaxHeld {
		done(t, b, pay(1, 2, i))
	}
	for _, sum := range []int{0, 1, 72} {
		refused(t, b, pay(1, 2, sum), api.ErrFull)
	}
	done(t, b, pay(2, 1, 0), pay(1, 0, 0), pay(0, 2, 0), pay(0, 1, 0), pay(2, 0, 0))
	if got := b.Way(1, 2); !slices.Equal(got, has(0, 1, 2, 3, 4, 5, 6, 7)) {
		t.Errorf("got %v", got)
	}
	done(t, b, come(1, 2), pay(1, 2, 50))
	refused(t, b, pay(1, 2, 1), api.ErrFull)
	if got := b.Way(1, 2); !slices.Equal(got, has(1, 2, 3, 4, 5, 6, 7, 50)) {
		t.Errorf("got %v", got)
	}
}

// TestMarkOnFullWay holds 9.1 and 9.2: a mark is sent on a full way, too, so that one more waits than may be paid; a mark is one of those that wait.
func TestMarkOnFullWay(t *testing.T) {
	b := bankOf(t, has(9, 0))
	for range api.MaxHeld {
		done(t, b, pay(0, 1, 1))
	}
	done(t, b, mark(0))
	if got := b.Way(0, 1); !slices.Equal(got, has(1, 1, 1, 1, 1, 1, 1, 1, -1)) {
		t.Fatalf("got %v", got)
	}
	refused(t, b, pay(0, 1, 0), api.ErrFull)
	done(t, b, come(0, 1))
	refused(t, b, pay(0, 1, 0), api.ErrFull)
	done(t, b, come(0, 1), pay(0, 1, 1))
	refused(t, b, pay(0, 1, 0), api.ErrFull)
	if got := b.Way(0, 1); !slices.Equal(got, has(1, 1, 1, 1, 1, 1, -1, 1)) {
		t.Fatalf("got %v", got)
	}
	for range api.MaxHeld - 2 {
		done(t, b, come(0, 1))
	}
	done(t, b, come(0, 1), come(0, 1), come(1, 0))
	if got := stateOf(b); got != "[0 9]  [1 8] [[0 0] [0 0]] true" {
		t.Errorf("got %s", got)
	}
}

// TestMarkByMarkOnFullWay holds 9.2: who notes since a mark came sends on its full ways, too.
func TestMarkByMarkOnFullWay(t *testing.T) {
	b := bankOf(t, has(0, 8))
	for range api.MaxHeld {
		done(t, b, pay(1, 0, 1))
	}
	done(t, b, mark(0), come(0, 1))
	if got := b.Way(1, 0); !slices.Equal(got, has(1, 1, 1, 1, 1, 1, 1, 1, -1)) {
		t.Fatalf("got %v", got)
	}
	for range api.MaxHeld + 1 {
		done(t, b, come(1, 0))
	}
	if got := stateOf(b); got != "[8 0]  [0 0] [[0 8] [0 0]] true" {
		t.Errorf("got %s", got)
	}
}

// TestNoSuchWay holds 9.3: nothing waits on a way that there is not.
func TestNoSuchWay(t *testing.T) {
	b := bankOf(t, has(5, 5, 5))
	done(t, b, pay(0, 1, 1), pay(1, 2, 2), pay(2, 0, 3), mark(1))
	for _, far := range []int{-1, -2, 3, 4, 5, 6, 1 << 32, 1<<32 + 1, -1 << 63, 1<<63 - 1} {
		for near := range 3 {
			if got := b.Way(far, near); got != nil {
				t.Errorf("from %d to %d: %v", far, near, got)
			}
			if got := b.Way(near, far); got != nil {
				t.Errorf("from %d to %d: %v", near, far, got)
			}
			if got := b.Way(near, near); got != nil {
				t.Errorf("from %d to itself: %v", near, got)
			}
		}
		if got := b.Way(far, far); got != nil {
			t.Errorf("from %d to %d: %v", far, far, got)
		}
	}
}
