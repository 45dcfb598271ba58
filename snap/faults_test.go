package snap_test

import (
	"fmt"
	"math"
	"slices"
	"testing"

	"whenstead/api"
	"whenstead/plain"
	"whenstead/snap"
)

// refused: a move that tells an error, and changes nothing that can be asked.
func refused(t *testing.T, b *snap.Bank, m api.Move, want api.Errno) {
	t.Helper()
	before := stateOf(b)
	if err := b.Do(m); plain.Told(err) != want {
		t.Errorf("%v at %s: got %v, want %v", m, before, err, want)
	}
	if got := stateOf(b); got != before {
		t.Errorf("%v was refused: %s became %s", m, before, got)
	}
}

// farNumbers: none of them is a kind, a process, or a sum.
func farNumbers() []int {
	return []int{-1, -2, -1000, 1001, 2000, 1 << 31, 1 << 32, 1<<32 + 1, 1<<32 + 2, -1 << 32, math.MinInt, math.MaxInt}
}

// noBank: New tells an error, and answers nothing beside it.
func noBank(t *testing.T, money []int, want api.Errno) {
	t.Helper()
	if b, err := snap.New(money); b != nil || plain.Told(err) != want {
		t.Errorf("New(%v): got %v, %v, want %v", money, b, err, want)
	}
}

// TestNewRefused holds 9.1: no process, too many, and too little or too much at each of them, in this order.
func TestNewRefused(t *testing.T) {
	noBank(t, nil, api.ErrNone)
	noBank(t, has(), api.ErrNone)
	for _, n := range []int{6, 7, 8, 64, 100000} {
		noBank(t, make([]int, n), api.ErrFull)
		noBank(t, slices.Repeat(has(-1), n), api.ErrFull)
		noBank(t, slices.Repeat(has(1001), n), api.ErrFull)
	}
	for n := 1; n <= api.MaxProcs; n++ {
		for at := range n {
			for _, bad := range farNumbers() {
				for _, others := range []int{0, 5, api.MaxMoney} {
					money := slices.Repeat(has(others), n)
					money[at] = bad
					noBank(t, money, api.ErrRange)
				}
			}
			for _, fine := range []int{0, 1, 999, api.MaxMoney} {
				money := make([]int, n)
				money[at] = fine
				if got := stateOf(bankOf(t, money)); got != fmt.Sprint(money, "  no") {
					t.Errorf("New(%v): got %s", money, got)
				}
			}
		}
		noBank(t, slices.Repeat(has(-1), n), api.ErrRange)
		noBank(t, slices.Repeat(has(1001), n), api.ErrRange)
	}
}

// banks of several sizes at which something waits on some ways: nobody noted, and somebody did.
func banks(t *testing.T) []*snap.Bank {
	var all []*snap.Bank
	for n := 1; n <= api.MaxProcs; n++ {
		for noted := range 3 {
			b := bankOf(t, slices.Repeat(has(100), n))
			if n > 1 {
				done(t, b, pay(0, 1, 10), pay(0, n-1, 20), pay(n-1, 0, 30))
			}
			if noted > 0 {
				done(t, b, mark(0))
			}
			if noted > 1 && n > 1 {
				done(t, b, come(0, 1), come(n-1, 0))
			}
			all = append(all, b)
		}
	}
	return all
}

// TestKindRange holds 9.1: a kind that is none comes first, whatever else is wrong.
func TestKindRange(t *testing.T) {
	for _, b := range banks(t) {
		n := len(b.Money())
		for _, kind := range append(farNumbers(), 3, 4) {
			for _, from := range []int{0, n - 1, n, -1} {
				for _, to := range []int{0, n - 1, n, -1, from} {
					for _, sum := range []int{0, 1, 101, -1, 1001} {
						refused(t, b, api.Move{Kind: kind, From: from, To: to, Sum: sum}, api.ErrRange)
					}
				}
			}
		}
	}
}

// TestFromRange holds 9.1: From is no process, at each kind, whatever else is wrong.
func TestFromRange(t *testing.T) {
	for _, b := range banks(t) {
		n := len(b.Money())
		for _, kind := range []int{api.Pay, api.Come, api.Mark} {
			for _, from := range append(farNumbers(), n, n+1, 5, 6) {
				for _, to := range []int{0, n - 1, n, -1, from} {
					for _, sum := range []int{0, 1, 101, -1, 1001} {
						refused(t, b, api.Move{Kind: kind, From: from, To: to, Sum: sum}, api.ErrRange)
					}
				}
			}
		}
	}
}

// TestToRange holds 9.1: To is no process, of Pay and of Come; and that comes ahead of all that is wrong with the sum.
func TestToRange(t *testing.T) {
	for _, b := range banks(t) {
		n := len(b.Money())
		for from := range n {
			for _, to := range append(farNumbers(), n, n+1, 5, 6) {
				for _, sum := range []int{0, 1, 101, -1, 1001} {
					refused(t, b, pay(from, to, sum), api.ErrRange)
					refused(t, b, api.Move{Kind: api.Come, From: from, To: to, Sum: sum}, api.ErrRange)
				}
			}
		}
	}
}

// TestToIsFrom holds 9.1: that comes ahead of all that is wrong with the sum, and of that nothing waits.
func TestToIsFrom(t *testing.T) {
	for _, b := range banks(t) {
		for from := range b.Money() {
			for _, sum := range append(farNumbers(), 0, 1, 101) {
				refused(t, b, pay(from, from, sum), api.ErrClash)
				refused(t, b, api.Move{Kind: api.Come, From: from, To: from, Sum: sum}, api.ErrClash)
			}
		}
	}
}

// TestSumRange holds 9.1: a sum that may not be comes ahead of that From has not so much, and of that the way is full.
func TestSumRange(t *testing.T) {
	rich, poor := bankOf(t, has(1000, 1000)), bankOf(t, has(0, 1000))
	done(t, rich, pay(1, 0, 1000), come(1, 0))
	for range api.MaxHeld {
		done(t, poor, pay(0, 1, 0))
	}
	for _, sum := range farNumbers() {
		refused(t, rich, pay(0, 1, sum), api.ErrRange)
		refused(t, poor, pay(0, 1, sum), api.ErrRange)
	}
	done(t, rich, pay(0, 1, 1000), pay(0, 1, 0), pay(0, 1, 1000))
}

// TestNotSoMuch holds 9.1: From has not so much, right above what it has; and that comes ahead of that the way is full.
func TestNotSoMuch(t *testing.T) {
	for _, much := range []int{0, 1, 500, 999} {
		b := bankOf(t, has(1000, much))
		refused(t, b, pay(1, 0, much+1), api.ErrNone)
		refused(t, b, pay(1, 0, 1000), api.ErrNone)
		for range api.MaxHeld {
			done(t, b, pay(1, 0, 0))
		}
		refused(t, b, pay(1, 0, much+1), api.ErrNone)
		refused(t, b, pay(1, 0, much), api.ErrFull)
		done(t, b, come(1, 0), pay(1, 0, much))
		refused(t, b, pay(1, 0, 1), api.ErrNone)
		refused(t, b, pay(1, 0, 0), api.ErrFull)
		if much > 0 {
			done(t, b, pay(0, 1, 1))
			refused(t, b, pay(1, 0, 1), api.ErrNone)
			done(t, b, come(0, 1))
			refused(t, b, pay(1, 0, 1), api.ErrFull)
		}
	}
}

// TestNothingWaits holds 9.1: on a way on which nothing was sent, and on one from which all came, though something waits on others.
func TestNothingWaits(t *testing.T) {
	b := bankOf(t, has(9, 9, 9))
	done(t, b, pay(0, 1, 1), pay(0, 1, 2), pay(2, 0, 3))
	for _, m := range []api.Move{come(1, 0), come(0, 2), come(1, 2), come(2, 1)} {
		refused(t, b, m, api.ErrNone)
	}
	done(t, b, come(0, 1), come(0, 1))
	refused(t, b, come(0, 1), api.ErrNone)
	done(t, b, mark(1), come(1, 0))
	refused(t, b, come(1, 0), api.ErrNone)
}

// TestSomebodyNoted holds 9.1: nobody may begin to note once somebody noted, whoever it was, also when all have.
func TestSomebodyNoted(t *testing.T) {
	for n := 1; n <= api.MaxProcs; n++ {
		for first := range n {
			b := bankOf(t, slices.Repeat(has(10), n))
			done(t, b, mark(first))
			for from := range n {
				refused(t, b, mark(from), api.ErrState)
			}
			for range n {
				for from := range n {
					for to := range n {
						if b.Way(from, to) != nil {
							done(t, b, come(from, to))
						}
						refused(t, b, mark(to), api.ErrState)
					}
				}
			}
			if _, _, all := b.Noted(); !all {
				t.Errorf("%d of %d first: not all noted", first, n)
			}
		}
	}
}

// TestDoesNotMatter holds 9.1: To and Sum of Mark, and Sum of Come, may be anything.
func TestDoesNotMatter(t *testing.T) {
	for _, x := range append(farNumbers(), 0, 1, 2, 3) {
		for _, y := range append(farNumbers(), 0, 1, 2, 3) {
			b := bankOf(t, has(4, 5, 6))
			done(t, b, pay(0, 1, 2), api.Move{Kind: api.Mark, From: 0, To: x, Sum: y}, api.Move{Kind: api.Come, From: 0, To: 1, Sum: y}, api.Move{Kind: api.Come, From: 0, To: 1, Sum: x})
			if got := stateOf(b); got != "[2 7 6] 0>2[-1] 1>0[-1] 1>2[-1] no" {
				t.Fatalf("%d, %d: got %s", x, y, got)
			}
			refused(t, b, api.Move{Kind: api.Mark, From: 2, To: x, Sum: y}, api.ErrState)
			refused(t, b, api.Move{Kind: api.Come, From: 2, To: 1, Sum: x}, api.ErrNone)
		}
	}
}

// TestKindsInOrder: what is refused of one kind is not of another one.
func TestKindsInOrder(t *testing.T) {
	b := bankOf(t, has(1, 1))
	refused(t, b, api.Move{Kind: 0, From: 0, To: 1, Sum: 2}, api.ErrNone)
	refused(t, b, api.Move{Kind: 1, From: 0, To: 1, Sum: 0}, api.ErrNone)
	done(t, b, api.Move{Kind: 0, From: 0, To: 1, Sum: 1}, api.Move{Kind: 1, From: 0, To: 1, Sum: 2}, api.Move{Kind: 2, From: 0, To: 0, Sum: 2})
	if got := stateOf(b); got != "[0 2] 0>1[-1] no" {
		t.Errorf("got %s", got)
	}
}
