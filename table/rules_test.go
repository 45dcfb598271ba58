package table_test

import (
	"errors"
	"fmt"
	"math"
	"slices"
	"testing"

	"whenstead/api"
	"whenstead/plain"
	"whenstead/table"
)

// wildNumbers: such as may be, and such as may not.
func wildNumbers() []int {
	return []int{0, 1, 2, 3, 4, 5, 6, 60, -1, -2, math.MinInt, math.MaxInt, 1 << 32}
}

// TestAnythingGoes holds P1: no call panics, and beside an error there is nothing; and P3: an error is a number that has a name, not OK.
func TestAnythingGoes(t *testing.T) {
	may := []api.Errno{api.ErrRange, api.ErrFull, api.ErrClash}
	for _, procs := range wildNumbers() {
		x, err := table.New(procs)
		if err != nil {
			if x != nil || !slices.Contains(may, plain.Told(err)) {
				t.Errorf("New(%d): %v, %v", procs, x, err)
			}
			continue
		}
		for range 70 {
			for _, p := range wildNumbers() {
				if err := x.Write(p); err != nil && !slices.Contains(may, plain.Told(err)) {
					t.Fatalf("%d: Write(%d): %v", procs, p, err)
				}
			}
		}
		for _, who := range wildNumbers() {
			for _, of := range wildNumbers() {
				if err := x.Tell(who, of); err != nil && !slices.Contains(may, plain.Told(err)) {
					t.Fatalf("%d: Tell(%d, %d): %v", procs, who, of, err)
				}
				for _, writer := range wildNumbers() {
					if got := x.Knows(who, of, writer); got < -1 || got > 60 {
						t.Fatalf("%d: Knows(%d, %d, %d): %d", procs, who, of, writer, got)
					}
				}
				if got := x.Stable(who, of); got < -1 || got > 60 {
					t.Fatalf("%d: Stable(%d, %d): %d", procs, who, of, got)
				}
			}
		}
	}
}

// TestNumbers holds P3: the errors that chapter 10 tells have the numbers that the document names.
func TestNumbers(t *testing.T) {
	var e api.Errno
	for _, procs := range []int{0, 6} {
		if _, err := table.New(procs); !errors.As(err, &e) || e != 1 {
			t.Errorf("New(%d): got %v", procs, err)
		}
	}
	x := tableOf(t, 2)
	for range 60 {
		done(t, x, write(1))
	}
	for _, c := range []struct {
		s    step
		want api.Errno
	}{{write(2), 1}, {write(1), 4}, {tell(2, 0), 1}, {tell(0, 2), 1}, {tell(2, 2), 1}, {tell(1, 1), 6}} {
		if err := c.s.do(x); !errors.As(err, &e) || e != c.want {
			t.Errorf("%v: got %v, want %v", c.s, err, c.want)
		}
	}
}

// busy does all kinds of steps at a table, and asks all that can be asked.
func busy(x *table.Table, procs int) string {
	s := ""
	for from := range procs + 1 {
		for to := range procs + 1 {
			for _, st := range []step{write(from), tell(from, to), write(to), tell(to, from)} {
				s += fmt.Sprintln(st, plain.Told(st.do(x)), stateOf(x, procs))
			}
		}
	}
	return s
}

// TestTablesApart holds P2: what is done at one table changes no other one, and two at which the same is done tell the same.
func TestTablesApart(t *testing.T) {
	for procs := 1; procs <= api.MaxProcs; procs++ {
		one, two := tableOf(t, procs), tableOf(t, procs)
		want := stateOf(two, procs)
		first := busy(one, procs)
		if got := stateOf(two, procs); got != want {
			t.Errorf("%s became %s", want, got)
		}
		done(t, tableOf(t, 5), write(0), write(4), tell(0, 4))
		table.New(9)
		if got := busy(two, procs); got != first {
			t.Errorf("got %s, want %s", got, first)
		}
	}
}

// TestAskingChangesNothing holds P2: what is told stays the same, however often it is asked.
func TestAskingChangesNothing(t *testing.T) {
	x := tableOf(t, 3)
	done(t, x, write(0), tell(0, 1), write(1), tell(1, 2), tell(2, 0))
	want := stateOf(x, 3)
	for range 3 {
		if got := stateOf(x, 3); got != want {
			t.Fatalf("%s became %s", want, got)
		}
	}
}
