package cut_test

import (
	"slices"
	"testing"

	"whenstead/api"
	"whenstead/cut"
)

// traceOf processes: of each event where it is, and of which it heard.
func traceOf(procs int, told ...int) api.Trace {
	t := api.Trace{Procs: procs}
	for i := 0; i < len(told); i += 2 {
		t.Events = append(t.Events, api.Event{Proc: told[i], From: told[i+1]})
	}
	return t
}

// apart: n events, at one process after the other, none of which heard of another one.
func apart(procs, n int) api.Trace {
	t := api.Trace{Procs: procs}
	for i := range n {
		t.Events = append(t.Events, api.Event{Proc: i % procs, From: -1})
	}
	return t
}

// passedOn: n events, at one process after the other, each of which heard of the one ahead of it.
func passedOn(procs, n int) api.Trace {
	t := apart(procs, n)
	for i := range t.Events {
		t.Events[i].From = i - 1
	}
	return t
}

// with another event at a place.
func with(t api.Trace, i, proc, from int) api.Trace {
	t.Events = slices.Clone(t.Events)
	t.Events[i] = api.Event{Proc: proc, From: from}
	return t
}

// at each process so many: just a list of numbers.
func at(numbers ...int) []int { return numbers }

// setOf events.
func setOf(events ...int) int {
	s := 0
	for _, i := range events {
		s |= 1 << i
	}
	return s
}

// cutThrough a trace: its numbers, what is in it, and those of the greatest whole cut in it.
type cutThrough struct {
	c      []int
	events int
	line   []int
}

// whole: a cut in which nothing was heard of that is not in it.
func whole(c []int, events ...int) cutThrough { return cutThrough{c, setOf(events...), c} }

// torn: a cut that is not whole.
func torn(c, line []int, events ...int) cutThrough { return cutThrough{c, setOf(events...), line} }

// worked is a trace with some of its cuts, and how many whole ones it has, worked out by hand.
type worked struct {
	name  string
	t     api.Trace
	cuts  []cutThrough
	count int
}

// aloneWorkedOut: traces in which nobody heard of anybody.
func aloneWorkedOut() []worked {
	return []worked{
		{"no events", traceOf(1), []cutThrough{whole(at(0))}, 1},
		{"no events, most processes", traceOf(5), []cutThrough{whole(at(0, 0, 0, 0, 0))}, 1},
		{"one event", apart(1, 1), []cutThrough{whole(at(0)), whole(at(1), 0)}, 2},
		{"one event, at the last process", traceOf(3, 2, -1), []cutThrough{whole(at(0, 0, 0)), whole(at(0, 0, 1), 0)}, 2},
		{"one process", apart(1, 4), []cutThrough{whole(at(0)), whole(at(1), 0), whole(at(2), 0, 1), whole(at(4), 0, 1, 2, 3)}, 5},
		{"two processes", apart(2, 5), []cutThrough{whole(at(0, 0)), whole(at(2, 1), 0, 1, 2), whole(at(0, 2), 1, 3), whole(at(3, 0), 0, 2, 4), whole(at(3, 2), 0, 1, 2, 3, 4)}, 12},
		{"two processes, the second one first", traceOf(2, 1, -1, 1, -1, 0, -1), []cutThrough{whole(at(1, 0), 2), whole(at(0, 1), 0), whole(at(1, 1), 0, 2), whole(at(0, 2), 0, 1)}, 6},
		{"processes without events between", traceOf(4, 3, -1, 1, -1, 3, -1), []cutThrough{whole(at(0, 1, 0, 1), 0, 1), whole(at(0, 0, 0, 2), 0, 2), whole(at(0, 1, 0, 2), 0, 1, 2)}, 6},
	}
}

// heardWorkedOut: traces in which one event heard of one.
func heardWorkedOut() []worked {
	return []worked{
		{"a pair", traceOf(2, 0, -1, 1, 0), []cutThrough{whole(at(0, 0)), whole(at(1, 0), 0), torn(at(0, 1), at(0, 0), 1), whole(at(1, 1), 0, 1)}, 3},
		{"a pair the other way", traceOf(2, 1, -1, 0, 0), []cutThrough{whole(at(0, 1), 0), torn(at(1, 0), at(0, 0), 1), whole(at(1, 1), 0, 1)}, 3},
		{"at the first event", traceOf(2, 0, -1, 1, 0, 1, -1), []cutThrough{torn(at(0, 1), at(0, 0), 1), torn(at(0, 2), at(0, 0), 1, 2), whole(at(1, 1), 0, 1), whole(at(1, 2), 0, 1, 2)}, 4},
		{"at the last event", traceOf(2, 0, -1, 1, -1, 1, 0), []cutThrough{whole(at(0, 1), 1), torn(at(0, 2), at(0, 1), 1, 2), whole(at(1, 1), 0, 1), whole(at(1, 2), 0, 1, 2)}, 5},
		{"at an event between", traceOf(2, 0, -1, 1, -1, 1, 0, 1, -1), []cutThrough{whole(at(0, 1), 1), torn(at(0, 2), at(0, 1), 1, 2), torn(at(0, 3), at(0, 1), 1, 2, 3), whole(at(1, 3), 0, 1, 2, 3)}, 6},
		{"of the last one of several", traceOf(2, 0, -1, 0, -1, 1, 1), []cutThrough{torn(at(0, 1), at(0, 0), 2), torn(at(1, 1), at(1, 0), 0, 2), whole(at(2, 1), 0, 1, 2), whole(at(1, 0), 0)}, 4},
		{"of the first one of several", traceOf(2, 0, -1, 0, -1, 1, 0), []cutThrough{torn(at(0, 1), at(0, 0), 2), whole(at(1, 1), 0, 2), whole(at(2, 1), 0, 1, 2)}, 5},
		{"a process without events between", traceOf(3, 2, -1, 0, 0), []cutThrough{torn(at(1, 0, 0), at(0, 0, 0), 1), whole(at(1, 0, 1), 0, 1), whole(at(0, 0, 1), 0)}, 3},
	}
}

// farWorkedOut: traces in which several events heard, also over several processes.
func farWorkedOut() []worked {
	row := traceOf(3, 0, -1, 1, 0, 1, -1, 2, 2)
	round := traceOf(3, 0, -1, 1, -1, 2, 1, 1, 0, 2, 3, 0, 4)
	return []worked{
		{"passed on", passedOn(3, 3), []cutThrough{torn(at(0, 1, 1), at(0, 0, 0), 1, 2), torn(at(1, 0, 1), at(1, 0, 0), 0, 2), torn(at(0, 0, 1), at(0, 0, 0), 2), whole(at(1, 1, 0), 0, 1), whole(at(1, 1, 1), 0, 1, 2)}, 4},
		{"passed on from a later event", row, []cutThrough{torn(at(0, 2, 1), at(0, 0, 0), 1, 2, 3), torn(at(1, 1, 1), at(1, 1, 0), 0, 1, 3), whole(at(1, 2, 0), 0, 1, 2), whole(at(1, 2, 1), 0, 1, 2, 3)}, 5},
		{"round three processes", round, []cutThrough{
			whole(at(2, 2, 2), 0, 1, 2, 3, 4, 5),
			torn(at(0, 2, 2), at(0, 1, 1), 1, 2, 3, 4),
			torn(at(2, 1, 2), at(1, 1, 1), 0, 1, 2, 4, 5),
			torn(at(2, 2, 1), at(1, 2, 1), 0, 1, 2, 3, 5),
			torn(at(2, 0, 2), at(1, 0, 0), 0, 2, 4, 5),
			torn(at(0, 0, 2), at(0, 0, 0), 2, 4),
			whole(at(0, 1, 1), 1, 2),
			whole(at(1, 2, 1), 0, 1, 2, 3),
		}, 10},
		{"across", traceOf(2, 0, -1, 1, -1, 0, 1, 1, 0), []cutThrough{torn(at(2, 0), at(1, 0), 0, 2), torn(at(0, 2), at(0, 1), 1, 3), whole(at(2, 1), 0, 1, 2), whole(at(1, 2), 0, 1, 3), whole(at(2, 2), 0, 1, 2, 3)}, 7},
		{"to and fro", traceOf(2, 0, -1, 1, 0, 0, 1, 1, 2), []cutThrough{torn(at(2, 0), at(1, 0), 0, 2), torn(at(1, 2), at(1, 1), 0, 1, 3), torn(at(0, 2), at(0, 0), 1, 3), whole(at(2, 1), 0, 1, 2)}, 5},
		{"the last process first", traceOf(3, 2, -1, 0, 0, 2, -1, 1, 2), []cutThrough{torn(at(1, 1, 1), at(1, 0, 1), 0, 1, 3), whole(at(0, 1, 2), 0, 2, 3), torn(at(1, 1, 0), at(0, 0, 0), 1, 3), whole(at(1, 1, 2), 0, 1, 2, 3)}, 7},
		{"two heard of one", traceOf(3, 1, -1, 2, 0, 0, 0), []cutThrough{torn(at(1, 0, 1), at(0, 0, 0), 1, 2), whole(at(1, 1, 0), 0, 2), whole(at(0, 1, 1), 0, 1)}, 5},
		{"two that are missing", traceOf(3, 0, -1, 1, -1, 2, 0, 2, 1, 2, -1), []cutThrough{torn(at(0, 0, 3), at(0, 0, 0), 2, 3, 4), torn(at(1, 0, 3), at(1, 0, 1), 0, 2, 3, 4), torn(at(0, 1, 3), at(0, 1, 0), 1, 2, 3, 4), whole(at(1, 1, 3), 0, 1, 2, 3, 4)}, 8},
	}
}

// mostWorkedOut: traces of as many events as may be.
func mostWorkedOut() []worked {
	const most, all = api.MaxEvents, 1<<api.MaxEvents - 1
	set := func(c, line []int, events int) cutThrough { return cutThrough{c, events, line} }
	whole := func(c []int, events int) cutThrough { return cutThrough{c, events, c} }
	return []worked{
		{"one process", apart(1, most), []cutThrough{whole(at(0), 0), whole(at(23), 1<<23-1), whole(at(24), all)}, 25},
		{"two processes, apart", apart(2, most), []cutThrough{whole(at(12, 0), 0x555555), whole(at(0, 12), 0xaaaaaa), whole(at(12, 12), all)}, 13 * 13},
		{"three processes, apart", apart(3, most), []cutThrough{whole(at(8, 8, 7), 1<<23-1), whole(at(8, 8, 8), all)}, 9 * 9 * 9},
		{"four processes, apart", apart(4, most), []cutThrough{whole(at(0, 0, 0, 6), 0x888888), whole(at(6, 6, 6, 6), all)}, 7 * 7 * 7 * 7},
		{"most processes, apart", apart(5, most), []cutThrough{whole(at(0, 0, 0, 0, 0), 0), whole(at(1, 0, 0, 0, 4), setOf(0, 4, 9, 14, 19)), whole(at(5, 5, 5, 5, 4), all)}, 6 * 6 * 6 * 6 * 5},
		{"most processes, passed on", passedOn(5, most), []cutThrough{
			whole(at(5, 5, 5, 5, 4), all),
			whole(at(5, 5, 5, 4, 4), 1<<23-1),
			set(at(4, 5, 5, 5, 4), at(4, 4, 4, 4, 4), all&^setOf(20)),
			set(at(5, 5, 5, 5, 3), at(4, 4, 4, 4, 3), all&^setOf(19)),
			set(at(5, 0, 5, 5, 4), at(1, 0, 0, 0, 0), all&^setOf(1, 6, 11, 16, 21)),
			set(at(0, 5, 5, 5, 4), at(0, 0, 0, 0, 0), all&^setOf(0, 5, 10, 15, 20)),
		}, 25},
		{"two processes, passed on", passedOn(2, most), []cutThrough{set(at(11, 12), at(11, 11), all&^setOf(22)), set(at(12, 5), at(6, 5), 0x555555|setOf(1, 3, 5, 7, 9)), whole(at(12, 12), all)}, 25},
	}
}

// allWorkedOut: all traces above.
func allWorkedOut() []worked {
	return slices.Concat(aloneWorkedOut(), heardWorkedOut(), farWorkedOut(), mostWorkedOut())
}

// TestEvents holds 8.1: which events are in a cut.
func TestEvents(t *testing.T) {
	for _, w := range allWorkedOut() {
		for _, x := range w.cuts {
			if got, err := cut.Events(w.t, x.c); err != nil || got != x.events {
				t.Errorf("%s, %v: got %d, %v, want %d", w.name, x.c, got, err, x.events)
			}
		}
	}
}

// TestIs holds 8.1: a cut is whole just if nothing must go from it.
func TestIs(t *testing.T) {
	for _, w := range allWorkedOut() {
		for _, x := range w.cuts {
			if got, err := cut.Is(w.t, x.c); err != nil || got != slices.Equal(x.c, x.line) {
				t.Errorf("%s, %v: got %v, %v", w.name, x.c, got, err)
			}
		}
	}
}

// TestLine holds 8.1: the greatest whole cut in a cut, which is whole itself.
func TestLine(t *testing.T) {
	for _, w := range allWorkedOut() {
		for _, x := range w.cuts {
			if got, err := cut.Line(w.t, x.c); err != nil || !slices.Equal(got, x.line) {
				t.Errorf("%s, %v: got %v, %v, want %v", w.name, x.c, got, err, x.line)
			}
			if is, err := cut.Is(w.t, x.line); err != nil || !is {
				t.Errorf("%s, %v: the line is not whole: %v, %v", w.name, x.c, is, err)
			}
		}
	}
}

// TestCount holds 8.1: how many whole cuts there are.
func TestCount(t *testing.T) {
	for _, w := range allWorkedOut() {
		if got, err := cut.Count(w.t); err != nil || got != w.count {
			t.Errorf("%s: got %d, %v, want %d", w.name, got, err, w.count)
		}
	}
}
