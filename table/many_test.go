package table_test

import (
	"testing"

	"whenstead/api"
	"whenstead/table"
)

// chance gives numbers that look as if by chance, but are the same at each run.
type chance uint

// next number below n.
func (c *chance) next(n int) int {
	*c = *c*6364136223846793005 + 1442695040888963407
	return int((uint(*c) >> 33) % uint(n))
}

// anyStep: of ten so many write; few have something wrong with them.
func (c *chance) anyStep(procs, writes int) step {
	s := tell(c.next(procs), c.next(procs))
	if c.next(10) < writes {
		s = write(c.next(procs))
	}
	switch c.next(40) {
	case 0:
		s.from = c.next(10) - 3
	case 1:
		s.to = c.next(10) - 3
	}
	if s.write {
		return write(s.from)
	}
	return s
}

// fineStep: one with which nothing is wrong but that it may be one write too many.
func (c *chance) fineStep(procs int) step {
	from := c.next(procs)
	if procs == 1 || c.next(3) == 0 {
		return write(from)
	}
	return tell(from, (from+1+c.next(procs-1))%procs)
}

// TestMany holds 10.1 at many tables and long rows of steps, each held against its past.
func TestMany(t *testing.T) {
	c := chance(10)
	met := map[api.Errno]int{}
	for range 400 {
		procs, writes := 1+c.next(api.MaxProcs), 1+c.next(9)
		var row []step
		for range 20 + c.next(200) {
			row = append(row, c.anyStep(procs, writes))
		}
		x, p := play(t, procs, row)
		hold(t, x, p)
		holdTruth(t, x, p)
		for _, s := range row {
			met[p.wrong(s)]++
		}
	}
	for _, e := range []api.Errno{api.OK, api.ErrRange, api.ErrFull, api.ErrClash} {
		if met[e] < 100 {
			t.Errorf("only %d times %v", met[e], e)
		}
	}
}

// TestManySteps holds 10.1 at some tables behind each step of a long row.
func TestManySteps(t *testing.T) {
	c := chance(100)
	for range 60 {
		procs := 1 + c.next(api.MaxProcs)
		x, p := tableOf(t, procs), pastOf(procs)
		for range 100 {
			both(t, x, p, c.anyStep(procs, 4))
			hold(t, x, p)
			holdTruth(t, x, p)
		}
	}
}

// TestManyTraces holds 10.1 against chapter 5, at rows of as many events as a trace may have.
func TestManyTraces(t *testing.T) {
	c := chance(1000)
	for range 5000 {
		procs := 2 + c.next(api.MaxProcs-1)
		x := tableOf(t, procs)
		var row []step
		for range api.MaxEvents / 2 {
			s := c.fineStep(procs)
			done(t, x, s)
			row = append(row, s)
		}
		holdTrace(t, x, procs, row)
	}
}

// anyAround: all tell all, in whatever order.
func (c *chance) anyAround(t *testing.T, x *table.Table, procs int) {
	var pairs []step
	for from := range procs {
		for to := range procs {
			if from != to {
				pairs = append(pairs, tell(from, to))
			}
		}
	}
	for i := range pairs {
		j := i + c.next(len(pairs)-i)
		pairs[i], pairs[j] = pairs[j], pairs[i]
	}
	done(t, x, pairs...)
}

// stableToAll tells whether all that was written is stable to all.
func stableToAll(x *table.Table, p *past) bool {
	for who := range p.procs {
		for writer := range p.procs {
			if x.Stable(who, writer) != p.written(writer, len(p.steps)) {
				return false
			}
		}
	}
	return true
}

// TestThreeTimesAround holds 10.1: when all told all three times around all is stable to all, in whatever order they tell, and it was not when they began.
func TestThreeTimesAround(t *testing.T) {
	c := chance(3)
	not := 0
	for range 1000 {
		procs := 1 + c.next(api.MaxProcs)
		var row []step
		for range c.next(60) {
			row = append(row, c.anyStep(procs, 5))
		}
		x, p := play(t, procs, row)
		if !stableToAll(x, p) {
			not++
		}
		for range 3 {
			c.anyAround(t, x, procs)
		}
		if !stableToAll(x, p) {
			t.Fatalf("%d processes, behind %v: %s", procs, row, stateOf(x, procs))
		}
	}
	if not < 500 {
		t.Errorf("only %d were not stable when they began", not)
	}
}

// TestLongRow: a table goes on as long as one likes.
func TestLongRow(t *testing.T) {
	x := tableOf(t, 2)
	done(t, x, write(0), write(1), write(1))
	for i := range 200000 {
		done(t, x, tell(i%2, 1-i%2))
	}
	if got := short(stateOf(x, 2)); got != "12/12 12/12; 12 12" {
		t.Errorf("got %s", got)
	}
}
