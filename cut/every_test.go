package cut_test

import (
	"fmt"
	"slices"
	"testing"

	"whenstead/api"
	"whenstead/cut"
	"whenstead/down"
	"whenstead/plain"
	"whenstead/stamp"
	"whenstead/trace"
)

// wantError goes through the faults of 8.1 in its words.
func wantError(t api.Trace, c []int) api.Errno {
	if err := trace.Check(t); err != nil {
		return plain.Told(err)
	}
	if len(c) != t.Procs {
		return api.ErrShape
	}
	for proc, n := range c {
		if events, _ := trace.Of(t, proc); n < 0 || n > len(events) {
			return api.ErrRange
		}
	}
	return api.OK
}

// wantEvents: the first ones of what chapter 5 tells of each process.
func wantEvents(t api.Trace, c []int) []int {
	var in []int
	for proc, n := range c {
		events, _ := trace.Of(t, proc)
		in = append(in, events[:n]...)
	}
	return in
}

// wantIs: of all events that were heard of by one that is in a cut none is missing.
func wantIs(t api.Trace, c []int) bool {
	in := wantEvents(t, c)
	return !slices.ContainsFunc(in, func(i int) bool {
		from := t.Events[i].From
		return from >= 0 && !slices.Contains(in, from)
	})
}

// everyCut of a trace.
func everyCut(t api.Trace) [][]int {
	all := [][]int{nil}
	for _, most := range allIn(t) {
		var longer [][]int
		for _, c := range all {
			for n := range most + 1 {
				longer = append(longer, append(slices.Clone(c), n))
			}
		}
		all = longer
	}
	return all
}

// everyWhole cut of a trace.
func everyWhole(t api.Trace) [][]int {
	return slices.DeleteFunc(everyCut(t), func(c []int) bool { return !wantIs(t, c) })
}

// isIn tells whether no number of a cut is above that of another one.
func isIn(c, d []int) bool {
	for proc := range c {
		if c[proc] > d[proc] {
			return false
		}
	}
	return true
}

// wantLine takes, of all whole cuts in a cut, the greatest numbers.
func wantLine(wholes [][]int, c []int) []int {
	line := make([]int, len(c))
	for _, w := range wholes {
		if !isIn(w, c) {
			continue
		}
		for proc := range w {
			line[proc] = max(line[proc], w[proc])
		}
	}
	return line
}

// hold Events, Is and Line of one cut against the plain ways above, and against what chapter 5 tells.
func hold(t *testing.T, tr api.Trace, wholes [][]int, c []int) {
	t.Helper()
	if want := wantError(tr, c); want != api.OK {
		tells(t, fmt.Sprint(tr, c), tr, c, want)
		return
	}
	events, err := cut.Events(tr, c)
	if want := setOf(wantEvents(tr, c)...); err != nil || events != want {
		t.Fatalf("Events %v %v: got %v, %v, want %v", tr, c, events, err, want)
	}
	is, err := cut.Is(tr, c)
	if err != nil || is != wantIs(tr, c) {
		t.Fatalf("Is %v %v: got %v, %v", tr, c, is, err)
	}
	line, err := cut.Line(tr, c)
	if want := wantLine(wholes, c); err != nil || !slices.Equal(line, want) {
		t.Fatalf("Line %v %v: got %v, %v, want %v", tr, c, line, err, want)
	}
	if !wantIs(tr, line) || is != slices.Equal(line, c) {
		t.Fatalf("Line %v %v: got %v, Is %v", tr, c, line, is)
	}
	if is != hasAllBefore(tr, events) {
		t.Fatalf("%v %v: Is %v, but what happened before says otherwise", tr, c, is)
	}
}

// hasAllBefore tells whether a set of events has all that happened before any of it.
func hasAllBefore(tr api.Trace, events int) bool {
	before, _ := trace.Before(tr)
	for i, b := range before {
		if events>>i&1 == 1 && b&^events != 0 {
			return false
		}
	}
	return true
}

// holdCount of a good trace against how many whole cuts there are, and against chapter 4, of an order of so many things.
func holdCount(t *testing.T, tr api.Trace, wholes [][]int) {
	t.Helper()
	got, err := cut.Count(tr)
	if err != nil || got != len(wholes) {
		t.Fatalf("Count %v: got %v, %v, want %v", tr, got, err, len(wholes))
	}
	if len(tr.Events) > api.MaxThings {
		return
	}
	before, _ := trace.Before(tr)
	behind := make([]int, len(before))
	for j, b := range before {
		for i := range behind {
			behind[i] |= b >> i & 1 << j
		}
	}
	if closed, err := down.Count(behind); err != nil || got != closed {
		t.Fatalf("Count %v: got %v, but there are %v closed sets, %v", tr, got, closed, err)
	}
}

// holdVectors: what chapter 6 tells that happened before an event, with itself, is the least whole cut that has it.
func holdVectors(t *testing.T, tr api.Trace, wholes [][]int) {
	t.Helper()
	vectors, err := stamp.Vectors(tr)
	if err != nil {
		t.Fatal(tr, err)
	}
	for i, v := range vectors {
		hold(t, tr, wholes, v)
		if is, err := cut.Is(tr, v); err != nil || !is {
			t.Fatalf("%v: the vector %v of %d: %v, %v", tr, v, i, is, err)
		}
		for proc := range v {
			less := slices.Clone(v)
			less[proc]--
			hold(t, tr, wholes, less)
			if line, err := cut.Line(tr, less); err == nil && line[tr.Events[i].Proc] == v[tr.Events[i].Proc] {
				t.Fatalf("%v: the line of %v has %d", tr, less, i)
			}
		}
	}
}

// everyTrace calls of with all lists of n events whose numbers are from least below to over above what may be.
func everyTrace(procs, n, least, over int, of func(t api.Trace)) {
	t := api.Trace{Procs: procs, Events: make([]api.Event, n)}
	var fill func(i int)
	fill = func(i int) {
		if i == n {
			of(t)
			return
		}
		for proc := -least; proc < procs+over; proc++ {
			for from := -1 - least; from < i+over; from++ {
				t.Events[i] = api.Event{Proc: proc, From: from}
				fill(i + 1)
			}
		}
	}
	fill(0)
}

// everyList of n numbers out of some.
func everyList(numbers []int, n int) [][]int {
	all := [][]int{nil}
	for range n {
		var longer [][]int
		for _, l := range all {
			for _, x := range numbers {
				longer = append(longer, append(slices.Clone(l), x))
			}
		}
		all = longer
	}
	return all
}

// TestEvery holds 8.1 at all lists of up to two events, and up to four numbers, with and without faults.
func TestEvery(t *testing.T) {
	var lists [][]int
	for n := range 5 {
		lists = append(lists, everyList([]int{-1, 0, 1, 2, 3}, n)...)
	}
	for procs := -1; procs <= 3; procs++ {
		for n := range 3 {
			everyTrace(procs, n, 1, 1, func(tr api.Trace) {
				var wholes [][]int
				if err := trace.Check(tr); err == nil {
					wholes = everyWhole(tr)
					holdCount(t, tr, wholes)
				} else if got, err2 := cut.Count(tr); got != 0 || plain.Told(err2) != plain.Told(err) {
					t.Fatalf("Count %v: got %v, %v, want %v", tr, got, err2, err)
				}
				for _, c := range lists {
					hold(t, tr, wholes, c)
				}
			})
		}
	}
}

// TestEveryGood holds 8.1 at all traces of a few events of few processes, and all their cuts.
func TestEveryGood(t *testing.T) {
	for _, x := range []struct{ procs, n int }{{1, 5}, {2, 3}, {2, 4}, {2, 5}, {3, 3}, {3, 4}, {3, 5}, {4, 4}, {5, 3}, {5, 4}} {
		everyTrace(x.procs, x.n, 0, 0, func(tr api.Trace) {
			if trace.Check(tr) != nil {
				return
			}
			wholes := everyWhole(tr)
			holdCount(t, tr, wholes)
			for _, c := range everyCut(tr) {
				hold(t, tr, wholes, c)
			}
		})
	}
}
