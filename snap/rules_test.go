package snap_test

import (
	"errors"
	"fmt"
	"math"
	"slices"
	"testing"

	"whenstead/api"
	"whenstead/plain"
	"whenstead/snap"
)

// wildNumbers: such as may be, and such as may not.
func wildNumbers() []int {
	return []int{0, 1, 2, 3, 4, 5, 1000, 1001, -1, -2, math.MinInt, math.MaxInt, 1 << 32}
}

// wildMoney: lists of what each has, and such that are none.
func wildMoney() [][]int {
	out := [][]int{nil, {}, wildNumbers(), make([]int, 1000), {0, 0, 0, 0, 0}, {0, 0, 0, 0, 0, 0}}
	for _, x := range wildNumbers() {
		out = append(out, []int{x}, []int{1, x}, []int{x, 1000, 0}, []int{3, 3, x, 3, 3}, slices.Repeat([]int{x}, 6))
	}
	return out
}

// TestAnythingGoes holds P1: no call panics, and beside an error there is nothing; and P3: an error is a number that has a name, not OK.
func TestAnythingGoes(t *testing.T) {
	may := []api.Errno{api.ErrRange, api.ErrFull, api.ErrNone, api.ErrClash, api.ErrState}
	for _, money := range wildMoney() {
		b, err := snap.New(money)
		if err != nil {
			if b != nil || !slices.Contains(may, plain.Told(err)) {
				t.Errorf("New(%v): %v, %v", money, b, err)
			}
			continue
		}
		for _, kind := range wildNumbers() {
			for _, from := range wildNumbers() {
				for _, to := range wildNumbers() {
					for _, sum := range wildNumbers() {
						m := api.Move{Kind: kind, From: from, To: to, Sum: sum}
						if err := b.Do(m); err != nil && !slices.Contains(may, plain.Told(err)) {
							t.Fatalf("%v, %v: %v", money, m, err)
						}
					}
					b.Way(from, to)
				}
				b.Money()
				b.Noted()
			}
		}
		holdMoney(t, b, sumOf(money))
	}
}

// TestNumbers holds P3: the errors that chapter 9 tells have the numbers that the document names.
func TestNumbers(t *testing.T) {
	var e api.Errno
	for _, x := range []struct {
		money []int
		want  api.Errno
	}{{nil, 5}, {make([]int, 6), 4}, {has(-1), 1}} {
		if _, err := snap.New(x.money); !errors.As(err, &e) || e != x.want {
			t.Errorf("New(%v): got %v, want %v", x.money, err, x.want)
		}
	}
	b := bankOf(t, has(1, 1))
	for range 8 {
		done(t, b, pay(0, 1, 0))
	}
	done(t, b, mark(1))
	for _, x := range []struct {
		m    api.Move
		want api.Errno
	}{
		{api.Move{Kind: 3}, 1}, {mark(2), 1}, {mark(0), 7}, {pay(0, 2, 0), 1}, {pay(0, 0, 0), 6},
		{pay(0, 1, -1), 1}, {pay(0, 1, 2), 5}, {pay(0, 1, 1), 4}, {come(1, 2), 1}, {come(1, 1), 6},
	} {
		if err := b.Do(x.m); !errors.As(err, &e) || e != x.want {
			t.Errorf("%v: got %v, want %v", x.m, err, x.want)
		}
	}
	done(t, b, come(1, 0))
	if err := b.Do(come(1, 0)); !errors.As(err, &e) || e != 5 {
		t.Errorf("nothing waits: got %v", err)
	}
}

// behind a list lies something that belongs to somebody else.
func behind(l []int, junk ...int) (list, memory []int) {
	memory = append(slices.Clone(l), junk...)
	return memory[:len(l)], memory
}

// busy does all kinds of moves at a bank, and asks all that can be asked.
func busy(b *snap.Bank) string {
	s := ""
	n := len(b.Money())
	for round := range 3 {
		for from := range n {
			for to := range n {
				for _, m := range []api.Move{pay(from, to, 3), pay(from, to, from+to), come(to, from), mark((from + 1) % n), come(from, to)} {
					if round == 2 && m.Kind == api.Pay {
						continue
					}
					s += fmt.Sprintln(m, plain.Told(b.Do(m)), stateOf(b))
				}
			}
		}
	}
	return s
}

// TestNothingWrittenInto holds P2: neither the list nor what lies behind it in memory is written into, also where New fails, and whatever is done later.
func TestNothingWrittenInto(t *testing.T) {
	for _, l := range wildMoney() {
		money, memory := behind(l, 77, 78)
		if b, err := snap.New(money); err == nil {
			busy(b)
		}
		if !slices.Equal(memory, append(slices.Clone(l), 77, 78)) {
			t.Fatalf("%v became %v", l, memory)
		}
	}
}

// TestNothingKept holds P2: a bank stays as it is when the list of which it was made changes later.
func TestNothingKept(t *testing.T) {
	for _, l := range [][]int{has(9), has(5, 6), has(0, 20, 7), has(9, 9, 9, 9, 9)} {
		want := busy(bankOf(t, l))
		money := slices.Clone(l)
		b := bankOf(t, money)
		for i := range money {
			money[i] = -7
		}
		if got := b.Money(); !slices.Equal(got, l) {
			t.Errorf("%v became %v", l, got)
		}
		if got := busy(b); got != want {
			t.Errorf("%v: got %s, want %s", l, got, want)
		}
	}
}

// TestBanksApart holds P2: what is done at one bank changes no other one, and two at which the same is done tell the same.
func TestBanksApart(t *testing.T) {
	money := has(5, 6, 7)
	one, two := bankOf(t, money), bankOf(t, money)
	want := stateOf(two)
	first := busy(one)
	if got := stateOf(two); got != want {
		t.Errorf("%s became %s", want, got)
	}
	bankOf(t, has(1, 1))
	noBank(t, has(-1), api.ErrRange)
	if got := busy(two); got != first {
		t.Errorf("got %s, want %s", got, first)
	}
}

// answersOf a bank: all lists that it tells, with the memory behind them.
func answersOf(b *snap.Bank) [][]int {
	lists := [][]int{b.Money()}
	for from := range b.Money() {
		for to := range b.Money() {
			lists = append(lists, b.Way(from, to))
		}
	}
	money, ways, _ := b.Noted()
	lists = append(append(lists, money), ways...)
	for i, l := range lists {
		lists[i] = l[:cap(l)]
	}
	return lists
}

// scribble over lists, each with a number of its own, and tell whether any shares memory with another one.
func scribble(lists [][]int) bool {
	for i, l := range lists {
		for j := range l {
			l[j] = -5 - i
		}
	}
	for i, l := range lists {
		for _, x := range l {
			if x != -5-i {
				return false
			}
		}
	}
	return true
}

// TestAnswersAreFresh holds P2: who writes all over what a bank told writes into no other answer, nor into the bank.
func TestAnswersAreFresh(t *testing.T) {
	for _, w := range slices.Concat(workedPays(), workedNotes()) {
		b := bankOf(t, w.money)
		for i, s := range w.steps {
			b.Do(s.m)
			want := fmt.Sprint(s.money, " ", s.ways, " ", s.noted)
			if !scribble(slices.Concat(answersOf(b), answersOf(b))) {
				t.Fatalf("%s, step %d: two lists share memory", w.name, i)
			}
			_, ways, _ := b.Noted()
			for to := range ways {
				ways[to] = nil
			}
			if got := stateOf(b); got != want {
				t.Fatalf("%s, step %d: %s became %s", w.name, i, want, got)
			}
		}
	}
}

// TestAnswersStay holds P2: what a bank told stays as it is, whatever is done later.
func TestAnswersStay(t *testing.T) {
	b := bankOf(t, has(20, 20))
	done(t, b, pay(0, 1, 1), pay(0, 1, 2), pay(0, 1, 3))
	way, money := b.Way(0, 1), b.Money()
	done(t, b, come(0, 1), pay(0, 1, 4), mark(0), come(0, 1), pay(0, 1, 5))
	if !slices.Equal(way, has(1, 2, 3)) || !slices.Equal(money, has(14, 20)) {
		t.Errorf("became %v, %v", way, money)
	}
	done(t, b, come(0, 1), come(0, 1), come(0, 1), come(1, 0))
	had, ways, all := b.Noted()
	busy(b)
	if fmt.Sprint(had, ways, all) != "[10 30] [[0 0] [0 0]] true" {
		t.Errorf("became %v, %v, %v", had, ways, all)
	}
}

// TestEmptyIsNil holds P4.
func TestEmptyIsNil(t *testing.T) {
	for _, money := range [][]int{nil, {}, make([]int, 0, 5), has(1, 2)[:0]} {
		noBank(t, money, api.ErrNone)
	}
	b := bankOf(t, has(1, 1))
	for range 2 {
		if w := b.Way(0, 1); w != nil {
			t.Errorf("nothing waits: %v", w)
		}
		done(t, b, pay(0, 1, 0), come(0, 1))
	}
}

// TestBehindTheLengthNotRead holds P4.
func TestBehindTheLengthNotRead(t *testing.T) {
	l := has(4, 0, 9)
	want := busy(bankOf(t, l))
	for _, junk := range [][]int{{-1}, {1001, 5}, {1, 1, 1}, make([]int, 40)} {
		money, _ := behind(l, junk...)
		if got := busy(bankOf(t, money)); got != want {
			t.Errorf("ahead of %v: got %s, want %s", junk, got, want)
		}
	}
}
