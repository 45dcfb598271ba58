package stamp_test

import (
	"slices"
	"testing"

	"whenstead/api"
	"whenstead/stamp"
)

// chance gives numbers that look as if by chance, but are the same at each run.
type chance uint

// next number below n.
func (c *chance) next(n int) int {
	*c = *c*6364136223846793005 + 1442695040888963407
	return int((uint(*c) >> 33) % uint(n))
}

// anyTrace that is one, of up to as many processes and events as may be.
func (c *chance) anyTrace() api.Trace {
	t := api.Trace{Procs: 1 + c.next(api.MaxProcs)}
	for i := range c.next(api.MaxEvents + 1) {
		e := api.Event{Proc: c.next(t.Procs), From: c.next(i+1) - 1}
		if e.From >= 0 && t.Events[e.From].Proc == e.Proc {
			e.From = -1
		}
		t.Events = append(t.Events, e)
	}
	return t
}

// anyOrder in which a trace may be told.
func (c *chance) anyOrder(t api.Trace) []int {
	var order []int
	told := func(i int) bool { return i < 0 || slices.Contains(order, i) }
	for len(order) < len(t.Events) {
		i := c.next(len(t.Events))
		if !told(i) && told(ahead(t, i)) && told(t.Events[i].From) {
			order = append(order, i)
		}
	}
	return order
}

// retold in another order: the same events, each of which heard of the same one.
func retold(t api.Trace, order []int) api.Trace {
	u := api.Trace{Procs: t.Procs}
	for _, i := range order {
		e := t.Events[i]
		if e.From >= 0 {
			e.From = slices.Index(order, e.From)
		}
		u.Events = append(u.Events, e)
	}
	return u
}

// TestMany holds 6.1 at many traces of all sizes, told in several orders, and with one event changed.
func TestMany(t *testing.T) {
	c := chance(6)
	for range 1000 {
		tr := c.anyTrace()
		hold(t, tr)
		order := c.anyOrder(tr)
		u := retold(tr, order)
		hold(t, u)
		holdRetold(t, tr, u, order)
		if n := len(u.Events); n > 0 {
			hold(t, with(u, c.next(n), c.next(u.Procs+1), c.next(n+2)-2))
		}
	}
}

// holdRetold: whatever the order in which a trace is told, each event has the same clocks, and the row is the same.
func holdRetold(t *testing.T, tr, u api.Trace, order []int) {
	t.Helper()
	clocks, err1 := stamp.Plain(tr)
	vectors, err2 := stamp.Vectors(tr)
	row, err3 := stamp.Row(tr)
	clocksU, err4 := stamp.Plain(u)
	vectorsU, err5 := stamp.Vectors(u)
	rowU, err6 := stamp.Row(u)
	for _, err := range []error{err1, err2, err3, err4, err5, err6} {
		if err != nil {
			t.Fatal(tr, u, err)
		}
	}
	for a, i := range order {
		if clocks[i] != clocksU[a] || !slices.Equal(vectors[i], vectorsU[a]) || row[a] != order[rowU[a]] {
			t.Fatalf("%v told as %v: %v and %v, %v and %v, %v and %v", tr, u, clocks, clocksU, vectors, vectorsU, row, rowU)
		}
	}
}
