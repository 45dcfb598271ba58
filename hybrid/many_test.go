package hybrid_test

import (
	"slices"
	"testing"

	"whenstead/api"
	"whenstead/hybrid"
)

// chance gives numbers that look as if by chance, but are the same at each run.
type chance uint

// next number below n.
func (c *chance) next(n int) int {
	*c = *c*6364136223846793005 + 1442695040888963407
	return int((uint(*c) >> 33) % uint(n))
}

// anyTrace that is one, of up to as many processes and events as may be.
func (c *chance) anyTrace() api.Trace {
	t := api.Trace{Procs: 1 + c.next(api.MaxProcs)}
	for i := range c.next(api.MaxEvents + 1) {
		e := api.Event{Proc: c.next(t.Procs), From: c.next(i+1) - 1}
		if e.From >= 0 && t.Events[e.From].Proc == e.Proc {
			e.From = -1
		}
		t.Events = append(t.Events, e)
	}
	return t
}

// anyTimes of n events: few that are often the same, many that are not, or such that rise from event to event, but for some that fall.
func (c *chance) anyTimes(n int) []int {
	times := make([]int, n)
	span := []int{1, 2, 4, 30, top + 1}[c.next(5)]
	rises := c.next(2) == 0
	for i := range times {
		times[i] = c.next(span)
		if rises {
			times[i] = min(top, times[i]+2*i)
		}
	}
	return times
}

// anyOrder in which a trace may be told.
func (c *chance) anyOrder(t api.Trace) []int {
	var order []int
	told := func(i int) bool { return i < 0 || slices.Contains(order, i) }
	for len(order) < len(t.Events) {
		i := c.next(len(t.Events))
		if !told(i) && told(ahead(t, i)) && told(t.Events[i].From) {
			order = append(order, i)
		}
	}
	return order
}

// retold in another order: the same events at the same times, each of which heard of the same one.
func retold(t api.Trace, times, order []int) (api.Trace, []int) {
	u := api.Trace{Procs: t.Procs}
	var timesU []int
	for _, i := range order {
		e := t.Events[i]
		if e.From >= 0 {
			e.From = slices.Index(order, e.From)
		}
		u.Events = append(u.Events, e)
		timesU = append(timesU, times[i])
	}
	return u, timesU
}

// TestMany holds 7.1 and 7.2 at many traces of all sizes, told in several orders, and with an event, a time, or how many times there are changed.
func TestMany(t *testing.T) {
	c := chance(7)
	for range 3000 {
		tr := c.anyTrace()
		times := c.anyTimes(len(tr.Events))
		hold(t, tr, times)
		hold(t, tr, append(slices.Clone(times), c.next(3)-1))
		order := c.anyOrder(tr)
		u, timesU := retold(tr, times, order)
		hold(t, u, timesU)
		holdRetold(t, tr, u, times, timesU, order)
		n := len(u.Events)
		if n == 0 {
			continue
		}
		hold(t, u, timesU[:c.next(n)])
		hold(t, with(u, c.next(n), c.next(u.Procs+1), c.next(n+2)-2), timesU)
		timesU[c.next(n)] = []int{-1, 0, 1, top, top + 1}[c.next(5)]
		hold(t, u, timesU)
	}
}

// holdRetold: whatever the order in which a trace is told, each event has the same stamp.
func holdRetold(t *testing.T, tr, u api.Trace, times, timesU, order []int) {
	t.Helper()
	stamps, err1 := hybrid.Stamps(tr, times)
	stampsU, err2 := hybrid.Stamps(u, timesU)
	if err1 != nil || err2 != nil {
		t.Fatal(tr, u, err1, err2)
	}
	for a, i := range order {
		if stamps[i] != stampsU[a] {
			t.Fatalf("%v %v told as %v %v: %v and %v", tr, times, u, timesU, stamps, stampsU)
		}
	}
}
