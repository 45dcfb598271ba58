package cut_test

import (
	"slices"
	"testing"

	"whenstead/api"
	"whenstead/cut"
)

// chance gives numbers that look as if by chance, but are the same at each run.
type chance uint

// next number below n.
func (c *chance) next(n int) int {
	*c = *c*6364136223846793005 + 1442695040888963407
	return int((uint(*c) >> 33) % uint(n))
}

// anyTrace that is one, of up to as many processes and events as may be; of some few events hear, of some most do.
func (c *chance) anyTrace() api.Trace {
	t := api.Trace{Procs: 1 + c.next(api.MaxProcs)}
	rare := 1 + c.next(4)
	for i := range c.next(api.MaxEvents + 1) {
		e := api.Event{Proc: c.next(t.Procs), From: c.next(i+1) - 1}
		if c.next(rare) > 0 || e.From >= 0 && t.Events[e.From].Proc == e.Proc {
			e.From = -1
		}
		t.Events = append(t.Events, e)
	}
	return t
}

// anyCut of a trace; of some all but a few events are in it.
func (c *chance) anyCut(t api.Trace) []int {
	numbers := allIn(t)
	much := c.next(2) == 0
	for proc, most := range numbers {
		numbers[proc] = c.next(most + 1)
		if much {
			numbers[proc] = most - c.next(min(most, 2)+1)
		}
	}
	return numbers
}

// anyOrder in which a trace may be told.
func (c *chance) anyOrder(t api.Trace) []int {
	var order []int
	told := func(i int) bool { return i < 0 || slices.Contains(order, i) }
	for len(order) < len(t.Events) {
		i := c.next(len(t.Events))
		if !told(i) && told(ahead(t, i)) && told(t.Events[i].From) {
			order = append(order, i)
		}
	}
	return order
}

// ahead gives the event ahead of one at its process, or -1.
func ahead(t api.Trace, i int) int {
	for j := i - 1; j >= 0; j-- {
		if t.Events[j].Proc == t.Events[i].Proc {
			return j
		}
	}
	return -1
}

// retold in another order: the same events, each of which heard of the same one.
func retold(t api.Trace, order []int) api.Trace {
	u := api.Trace{Procs: t.Procs}
	for _, i := range order {
		e := t.Events[i]
		if e.From >= 0 {
			e.From = slices.Index(order, e.From)
		}
		u.Events = append(u.Events, e)
	}
	return u
}

// TestMany holds 8.1 at many traces of all sizes and cuts of all kinds, and with an event, a number, or how many numbers there are changed.
func TestMany(t *testing.T) {
	c := chance(8)
	for range 300 {
		tr := c.anyTrace()
		wholes := everyWhole(tr)
		holdCount(t, tr, wholes)
		holdVectors(t, tr, wholes)
		hold(t, tr, wholes, allIn(tr))
		hold(t, tr, wholes, make([]int, tr.Procs))
		hold(t, tr, wholes, wholes[c.next(len(wholes))])
		for range 8 {
			numbers := c.anyCut(tr)
			hold(t, tr, wholes, numbers)
			hold(t, tr, wholes, append(slices.Clone(numbers), c.next(3)-1))
			hold(t, tr, wholes, numbers[:c.next(tr.Procs)])
			numbers[c.next(tr.Procs)] = c.next(api.MaxEvents+3) - 1
			hold(t, tr, wholes, numbers)
		}
	}
}

// TestManyFaults holds 8.1 at many traces with an event changed, most of which are none any more.
func TestManyFaults(t *testing.T) {
	c := chance(88)
	for range 3000 {
		tr := c.anyTrace()
		n := len(tr.Events)
		if n == 0 {
			continue
		}
		numbers := c.anyCut(tr)
		u := with(tr, c.next(n), c.next(tr.Procs+1), c.next(n+2)-2)
		if want := wantError(u, numbers); want != api.OK {
			tells(t, "changed", u, numbers, want)
			continue
		}
		events, err := cut.Events(u, numbers)
		if err != nil || events != setOf(wantEvents(u, numbers)...) {
			t.Fatalf("%v %v: got %v, %v", u, numbers, events, err)
		}
	}
}

// TestRetold: whatever the order in which a trace is told, a cut is as whole, has the same line, and there are as many.
func TestRetold(t *testing.T) {
	c := chance(80)
	for range 200 {
		tr := c.anyTrace()
		order := c.anyOrder(tr)
		u := retold(tr, order)
		n, err1 := cut.Count(tr)
		m, err2 := cut.Count(u)
		if err1 != nil || err2 != nil || n != m {
			t.Fatalf("%v told as %v: Count %v, %v and %v, %v", tr, u, n, err1, m, err2)
		}
		for range 20 {
			numbers := c.anyCut(tr)
			a, b := askAll(tr, numbers), askAll(u, numbers)
			if textOf(a[1:]) != textOf(b[1:]) {
				t.Fatalf("%v told as %v: %s and %s", tr, u, textOf(a), textOf(b))
			}
			for place, i := range order {
				if a[0].number>>i&1 != b[0].number>>place&1 {
					t.Fatalf("%v told as %v, %v: events are %v and %v", tr, u, numbers, a[0].number, b[0].number)
				}
			}
		}
	}
}
