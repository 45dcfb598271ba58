package snap_test

import (
	"slices"
	"testing"

	"whenstead/api"
)

// chance gives numbers that look as if by chance, but are the same at each run.
type chance uint

// next number below n.
func (c *chance) next(n int) int {
	*c = *c*6364136223846793005 + 1442695040888963407
	return int((uint(*c) >> 33) % uint(n))
}

// anyMoney of as many processes as may be, or, most often, fewer; some have nothing, some all that may be.
func (c *chance) anyMoney() []int {
	money := make([]int, 1+c.next(1+c.next(api.MaxProcs)))
	for i := range money {
		money[i] = []int{0, api.MaxMoney, c.next(20), c.next(api.MaxMoney + 1)}[c.next(4)]
	}
	return money
}

// anySum: some small ones, some of all that one has, and some that may not be.
func (c *chance) anySum(much int) int {
	return []int{0, much, much + 1, min(much, 1+c.next(9)), c.next(much + 1), c.next(api.MaxMoney + 1), -1, api.MaxMoney + 1}[c.next(8)]
}

// anyMove: of four that pay or come so many pay; few begin to note.
func (c *chance) anyMove(p *past, pays int) api.Move {
	n := len(p.start)
	m := api.Move{Kind: api.Come, From: c.next(n), To: c.next(n), Sum: c.next(5) - 1}
	switch {
	case c.next(20) == 0:
		m.Kind = api.Mark
	case c.next(4) < pays:
		m.Kind = api.Pay
		m.Sum = c.anySum(p.moneyAt(m.From, never))
	}
	switch c.next(40) {
	case 0:
		m.Kind = c.next(7) - 2
	case 1:
		m.From = c.next(9) - 2
	case 2:
		m.To = c.next(9) - 2
	}
	return m
}

// TestMany holds 9.1 to 9.3 at many banks and rows of moves, held against their past after each of them, and that what was noted does not change any more.
func TestMany(t *testing.T) {
	c := chance(9)
	met := map[api.Errno]int{}
	ends, ways := 0, 0
	for range 3000 {
		money := c.anyMoney()
		b, p := play(t, money, nil)
		pays := 0
		var row []api.Move
		noted := "no"
		for i := range 20 + c.next(100) {
			if i%20 == 0 {
				pays = 1 + c.next(4)
			}
			m := c.anyMove(p, pays)
			met[both(t, b, p, m, row)]++
			row = append(row, m)
			hold(t, b, p, row)
			if got := notedOf(b); noted == "no" {
				noted = got
			} else if got != noted {
				t.Fatalf("%v, behind %v: %s became %s", money, row, noted, got)
			}
		}
		if noted == "no" {
			continue
		}
		ends++
		if _, on, _ := b.Noted(); slices.ContainsFunc(on, func(w []int) bool { return sumOf(w) > 0 }) {
			ways++
		}
	}
	for _, e := range []api.Errno{api.OK, api.ErrRange, api.ErrFull, api.ErrNone, api.ErrClash, api.ErrState} {
		if met[e] < 100 {
			t.Errorf("only %d times %v", met[e], e)
		}
	}
	if ends < 100 || ways < 100 {
		t.Errorf("only %d banks noted all, and only %d of them something on a way", ends, ways)
	}
}

// TestManyCuts holds 9.2 against chapter 8: whatever is paid and comes, who noted did so along a whole cut.
func TestManyCuts(t *testing.T) {
	c := chance(99)
	for range 1500 {
		money := make([]int, 2+c.next(api.MaxProcs-1))
		for i := range money {
			money[i] = 1 + c.next(api.MaxMoney)
		}
		b, p := play(t, money, nil)
		for range 10 + c.next(20) {
			both(t, b, p, c.anyMove(p, 2), nil)
		}
		holdCut(t, p)
	}
}

// TestLongRow: a bank goes on as long as one likes.
func TestLongRow(t *testing.T) {
	b := bankOf(t, has(1000, 0))
	for i := range 200000 {
		done(t, b, pay(i%2, 1-i%2, 1000), come(i%2, 1-i%2))
	}
	if got := stateOf(b); got != "[1000 0]  no" {
		t.Errorf("got %s", got)
	}
}
