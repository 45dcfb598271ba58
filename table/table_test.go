package table_test

import (
	"fmt"
	"strings"
	"testing"

	"whenstead/api"
	"whenstead/plain"
	"whenstead/table"
)

// step of a row: a write at from, or a telling.
type step struct {
	write    bool
	from, to int
}

// write is a step at which a process writes.
func write(p int) step { return step{true, p, 0} }

// tell is a step at which one tells another one all that it knows.
func tell(from, to int) step { return step{false, from, to} }

// do a step at a table.
func (s step) do(x *table.Table) error {
	if s.write {
		return x.Write(s.from)
	}
	return x.Tell(s.from, s.to)
}

// tableOf so many processes as may be.
func tableOf(t *testing.T, procs int) *table.Table {
	t.Helper()
	x, err := table.New(procs)
	if err != nil || x == nil {
		t.Fatalf("New(%d): %v, %v", procs, x, err)
	}
	return x
}

// done: steps in which nothing is wrong.
func done(t *testing.T, x *table.Table, steps ...step) {
	t.Helper()
	for _, s := range steps {
		if err := s.do(x); err != nil {
			t.Fatalf("%v: %v", s, err)
		}
	}
}

// rowOf a number for each writer, as text.
func rowOf(procs int, number func(writer int) int) string {
	all := make([]string, procs)
	for writer := range procs {
		all[writer] = fmt.Sprint(number(writer))
	}
	return strings.Join(all, ",")
}

// knownOf a table, as text: by who, a blank between; of whom, a stroke between; and writer.
func knownOf(x *table.Table, procs int) string {
	whos := make([]string, procs)
	for who := range procs {
		ofs := make([]string, procs)
		for of := range procs {
			ofs[of] = rowOf(procs, func(writer int) int { return x.Knows(who, of, writer) })
		}
		whos[who] = strings.Join(ofs, "/")
	}
	return strings.Join(whos, " ")
}

// stableOf a table, as text: by who, and writer.
func stableOf(x *table.Table, procs int) string {
	whos := make([]string, procs)
	for who := range procs {
		whos[who] = rowOf(procs, func(writer int) int { return x.Stable(who, writer) })
	}
	return strings.Join(whos, " ")
}

// stateOf a table: all that can be asked of it, as text.
func stateOf(x *table.Table, procs int) string {
	return knownOf(x, procs) + "; " + stableOf(x, procs)
}

// short: a text of numbers below 10, without what stands between them.
func short(s string) string { return strings.ReplaceAll(s, ",", "") }

// behind a step: how the table stands.
type behind struct {
	s      step
	err    api.Errno
	known  string
	stable string
}

// good step: one that is done.
func good(s step, known, stable string) behind { return behind{s: s, known: known, stable: stable} }

// worked out by hand: a table, and a row of steps.
type worked struct {
	name  string
	procs int
	steps []behind
}

// workedFew: rows of one process, and of two.
func workedFew() []worked {
	return []worked{
		{"one alone", 1, []behind{
			good(write(0), "1", "1"),
			{tell(0, 0), api.ErrClash, "1", "1"},
			good(write(0), "2", "2"),
			{tell(0, 1), api.ErrRange, "2", "2"},
			{write(1), api.ErrRange, "2", "2"},
			good(write(0), "3", "3"),
		}},
		{"there and back", 2, []behind{
			good(write(0), "10/00 00/00", "00 00"),
			good(tell(0, 1), "10/00 10/10", "00 10"),
			good(write(1), "10/00 10/11", "00 10"),
			good(tell(1, 0), "11/11 10/11", "11 10"),
			good(tell(0, 1), "11/11 11/11", "11 11"),
			good(write(0), "21/11 11/11", "11 11"),
			good(write(1), "21/11 11/12", "11 11"),
			good(tell(1, 0), "22/12 11/12", "12 11"),
		}},
		{"nothing to tell", 2, []behind{
			good(tell(0, 1), "00/00 00/00", "00 00"),
			good(tell(1, 0), "00/00 00/00", "00 00"),
			{tell(1, 1), api.ErrClash, "00/00 00/00", "00 00"},
		}},
		{"nothing new to tell", 2, []behind{
			good(write(1), "00/00 00/01", "00 00"),
			good(tell(1, 0), "01/01 00/01", "01 00"),
			good(tell(1, 0), "01/01 00/01", "01 00"),
			good(tell(0, 1), "01/01 01/01", "01 01"),
			good(tell(0, 1), "01/01 01/01", "01 01"),
			good(tell(1, 0), "01/01 01/01", "01 01"),
		}},
		{"who is told tells nothing back", 2, []behind{
			good(write(0), "10/00 00/00", "00 00"),
			good(write(1), "10/00 00/01", "00 00"),
			good(tell(1, 0), "11/01 00/01", "01 00"),
			good(tell(1, 0), "11/01 00/01", "01 00"),
			good(tell(0, 1), "11/01 11/11", "01 11"),
		}},
	}
}

// workedThree: rows of three processes.
func workedThree() []worked {
	return []worked{
		{"told on over several", 3, []behind{
			good(write(0), "100/000/000 000/000/000 000/000/000", "000 000 000"),
			good(tell(0, 1), "100/000/000 100/100/000 000/000/000", "000 000 000"),
			good(tell(1, 2), "100/000/000 100/100/000 100/100/100", "000 000 100"),
			good(tell(2, 1), "100/000/000 100/100/100 100/100/100", "000 100 100"),
			good(tell(1, 0), "100/100/100 100/100/100 100/100/100", "100 100 100"),
		}},
		{"told of old, when more is known already", 3, []behind{
			good(write(0), "100/000/000 000/000/000 000/000/000", "000 000 000"),
			good(tell(0, 1), "100/000/000 100/100/000 000/000/000", "000 000 000"),
			good(write(0), "200/000/000 100/100/000 000/000/000", "000 000 000"),
			good(tell(0, 2), "200/000/000 100/100/000 200/000/200", "000 000 000"),
			good(tell(1, 2), "200/000/000 100/100/000 200/100/200", "000 000 100"),
			good(tell(2, 1), "200/000/000 200/200/200 200/100/200", "000 200 100"),
			good(tell(1, 2), "200/000/000 200/200/200 200/200/200", "000 200 200"),
		}},
		{"of each by themselves", 3, []behind{
			good(write(0), "100/000/000 000/000/000 000/000/000", "000 000 000"),
			good(write(0), "200/000/000 000/000/000 000/000/000", "000 000 000"),
			good(write(0), "300/000/000 000/000/000 000/000/000", "000 000 000"),
			good(write(1), "300/000/000 000/010/000 000/000/000", "000 000 000"),
			good(write(2), "300/000/000 000/010/000 000/000/001", "000 000 000"),
			good(write(2), "300/000/000 000/010/000 000/000/002", "000 000 000"),
			good(tell(0, 1), "300/000/000 300/310/000 000/000/002", "000 000 000"),
			good(tell(2, 1), "300/000/000 300/312/002 000/000/002", "000 000 000"),
			good(tell(1, 0), "312/312/002 300/312/002 000/000/002", "002 000 000"),
			good(tell(0, 2), "312/312/002 300/312/002 312/312/312", "002 000 312"),
			good(tell(2, 1), "312/312/002 312/312/312 312/312/312", "002 312 312"),
		}},
		{"of one whom it never heard itself", 3, []behind{
			good(write(2), "000/000/000 000/000/000 000/000/001", "000 000 000"),
			good(tell(2, 1), "000/000/000 000/001/001 000/000/001", "000 000 000"),
			good(write(2), "000/000/000 000/001/001 000/000/002", "000 000 000"),
			good(tell(1, 0), "001/001/001 000/001/001 000/000/002", "001 000 000"),
			good(tell(0, 2), "001/001/001 000/001/001 001/001/002", "001 000 001"),
			{tell(2, 2), api.ErrClash, "001/001/001 000/001/001 001/001/002", "001 000 001"},
			good(tell(2, 0), "002/001/002 000/001/001 001/001/002", "001 000 001"),
		}},
	}
}

// TestWorked holds 10.1 at rows that are worked out by hand, behind each step.
func TestWorked(t *testing.T) {
	for _, w := range append(workedFew(), workedThree()...) {
		x := tableOf(t, w.procs)
		for i, b := range w.steps {
			err := b.s.do(x)
			known, stable := short(knownOf(x, w.procs)), short(stableOf(x, w.procs))
			if plain.Told(err) != b.err || known != b.known || stable != b.stable {
				t.Errorf("%s, step %d: got %v, %s, %s, want %v, %s, %s", w.name, i, err, known, stable, b.err, b.known, b.stable)
			}
		}
	}
}

// TestNew holds 10.1: at first nobody knows of any write, of as many processes as may be.
func TestNew(t *testing.T) {
	for procs := 1; procs <= 5; procs++ {
		x := tableOf(t, procs)
		if got := stateOf(x, procs); strings.Trim(got, "0,/; ") != "" {
			t.Errorf("%d processes: got %s", procs, got)
		}
		if got := len(short(stableOf(x, procs))); got != procs*(procs+1)-1 {
			t.Errorf("%d processes: %s", procs, stableOf(x, procs))
		}
	}
}

// TestFive holds 10.1 at as many processes as may be: a write is told around, and back.
func TestFive(t *testing.T) {
	x := tableOf(t, api.MaxProcs)
	done(t, x, write(0), write(4), tell(0, 1), tell(1, 2), tell(2, 3), tell(3, 4))
	if got := x.Stable(4, 0); got != 1 {
		t.Errorf("the last one knows that all know: got %d", got)
	}
	for who := range 4 {
		if got := x.Stable(who, 0); got != 0 {
			t.Errorf("%d does not know it yet: got %d", who, got)
		}
	}
	for of := range 5 {
		if got, want := x.Knows(4, of, 4), of/4; got != want {
			t.Errorf("of %d: got %d, want %d", of, got, want)
		}
	}
	done(t, x, tell(4, 0))
	if got := fmt.Sprint(x.Stable(0, 0), x.Stable(0, 4), x.Knows(0, 0, 4), x.Knows(0, 4, 4), x.Knows(0, 3, 4)); got != "1 0 1 1 0" {
		t.Errorf("got %s", got)
	}
}

// TestMostWrites holds 10.1: a process may write 60 times, and not once more, whatever it knows; others may still write then, and all be told.
func TestMostWrites(t *testing.T) {
	for procs := 1; procs <= api.MaxProcs; procs++ {
		for p := range procs {
			x := tableOf(t, procs)
			for i := range 60 {
				if got := x.Knows(p, p, p); got != i {
					t.Fatalf("%d wrote %d times, and knows of %d", p, i, got)
				}
				done(t, x, write(p))
			}
			refused(t, x, procs, write(p), api.ErrFull)
			for other := range procs {
				if other == p {
					continue
				}
				done(t, x, tell(p, other), write(other))
				if got := fmt.Sprint(x.Knows(other, other, p), x.Knows(other, other, other)); got != "60 1" {
					t.Errorf("%d, told by %d: knows of %s", other, p, got)
				}
				refused(t, x, procs, write(p), api.ErrFull)
				done(t, x, tell(other, p))
				refused(t, x, procs, write(p), api.ErrFull)
			}
			if got := x.Knows(p, p, p); got != 60 || api.MaxSteps != 60 {
				t.Errorf("%d of %d knows of %d", p, procs, got)
			}
		}
	}
}

// TestAllFull holds 10.1: all may write as often as may be, and what all know is then stable.
func TestAllFull(t *testing.T) {
	x := tableOf(t, api.MaxProcs)
	for p := range 5 {
		for range 60 {
			done(t, x, write(p))
		}
	}
	around(t, x, 5)
	around(t, x, 5)
	around(t, x, 5)
	if got := stableOf(x, 5); got != strings.TrimSpace(strings.Repeat("60,60,60,60,60 ", 5)) {
		t.Errorf("got %s", got)
	}
	for p := range 5 {
		refused(t, x, 5, write(p), api.ErrFull)
	}
}

// around: all tell all.
func around(t *testing.T, x *table.Table, procs int) {
	t.Helper()
	for from := range procs {
		for to := range procs {
			if from != to {
				done(t, x, tell(from, to))
			}
		}
	}
}
