package trace_test

import (
	"slices"
	"testing"

	"whenstead/api"
	"whenstead/trace"
)

// chance gives numbers that look as if by chance, but are the same at each run.
type chance uint

// next number below n.
func (c *chance) next(n int) int {
	*c = *c*6364136223846793005 + 1442695040888963407
	return int((uint(*c) >> 33) % uint(n))
}

// anyTrace that is one, of up to as many processes and events as may be.
func (c *chance) anyTrace() api.Trace {
	t := api.Trace{Procs: 1 + c.next(api.MaxProcs)}
	for i := range c.next(api.MaxEvents + 1) {
		e := api.Event{Proc: c.next(t.Procs), From: c.next(i+1) - 1}
		if e.From >= 0 && t.Events[e.From].Proc == e.Proc {
			e.From = -1
		}
		t.Events = append(t.Events, e)
	}
	return t
}

// anyOrder in which a trace may be told.
func (c *chance) anyOrder(t api.Trace) []int {
	before := wantBefore(t)
	var order []int
	for done := 0; len(order) < len(t.Events); {
		i := c.next(len(t.Events))
		if done>>i&1 == 0 && before[i]&^done == 0 {
			order = append(order, i)
			done |= 1 << i
		}
	}
	return order
}

// wantSame goes by the words of 5.2, from process to process.
func wantSame(t, u api.Trace) bool {
	if t.Procs != u.Procs || len(t.Events) != len(u.Events) {
		return false
	}
	for proc := range t.Procs {
		ofT, ofU := wantOf(t, proc), wantOf(u, proc)
		if len(ofT) != len(ofU) {
			return false
		}
		for k := range ofT {
			procT, placeT := heardOf(t, ofT[k])
			procU, placeU := heardOf(u, ofU[k])
			if procT != procU || placeT != placeU {
				return false
			}
		}
	}
	return true
}

// heardOf tells at which process, and at which place there, the event is of which one heard; of none -1.
func heardOf(t api.Trace, i int) (proc, place int) {
	from := t.Events[i].From
	if from < 0 {
		return -1, -1
	}
	proc = t.Events[from].Proc
	return proc, slices.Index(wantOf(t, proc), from)
}

// TestMany holds 5.1 and 5.2 at many traces of all sizes, told in several orders, and with one event changed.
func TestMany(t *testing.T) {
	c := chance(5)
	for range 1000 {
		tr := c.anyTrace()
		hold(t, tr)
		order := c.anyOrder(tr)
		u := told(tr, order)
		hold(t, u)
		holdSame(t, tr, u, true)
		holdRetold(t, tr, u, order)
		if len(u.Events) == 0 {
			continue
		}
		i := c.next(len(u.Events))
		for from := -1; from < i; from++ {
			v := with(u, i, c.next(u.Procs), from)
			hold(t, v)
			if wantCheck(v) == api.OK {
				holdSame(t, tr, v, wantSame(tr, v))
			}
		}
	}
}

// holdSame holds Same both ways round.
func holdSame(t *testing.T, tr, u api.Trace, want bool) {
	t.Helper()
	for _, pair := range [][2]api.Trace{{tr, u}, {u, tr}} {
		if got, err := trace.Same(pair[0], pair[1]); err != nil || got != want {
			t.Fatalf("Same %v %v: got %v, %v, want %v", pair[0], pair[1], got, err, want)
		}
	}
}

// holdRetold: whatever the order in which a trace is told, the same happened before the same.
func holdRetold(t *testing.T, tr, u api.Trace, order []int) {
	t.Helper()
	before, err1 := trace.Before(tr)
	again, err2 := trace.Before(u)
	if err1 != nil || err2 != nil {
		t.Fatal(tr, u, err1, err2)
	}
	for a, i := range order {
		for b, j := range order {
			if before[i]>>j&1 != again[a]>>b&1 {
				t.Fatalf("Before of %v is %v, told as %v it is %v", tr, before, u, again)
			}
		}
	}
}
