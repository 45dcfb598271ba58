package trace_test

import (
	"fmt"
	"slices"
	"testing"

	"whenstead/api"
	"whenstead/plain"
	"whenstead/trace"
)

// wantCheck goes through the faults of 5.1 in its words.
func wantCheck(t api.Trace) api.Errno {
	if !slices.Contains([]int{1, 2, 3, 4, 5}, t.Procs) {
		return api.ErrRange
	}
	if len(t.Events) >= 25 {
		return api.ErrFull
	}
	ahead := map[int]int{} // where each event told so far is
	for i, e := range t.Events {
		where, isAhead := ahead[e.From]
		switch {
		case e.Proc < 0, e.Proc > t.Procs-1, e.From != -1 && !isAhead:
			return api.ErrRange
		case e.From != -1 && where == e.Proc:
			return api.ErrClash
		}
		ahead[i] = e.Proc
	}
	return api.OK
}

// wantBefore asks all pairs, and then over all others.
func wantBefore(t api.Trace) []int {
	n := len(t.Events)
	is := make([][]bool, n)
	for i := range n {
		is[i] = make([]bool, n)
		for j := range n {
			is[i][j] = i < j && t.Events[i].Proc == t.Events[j].Proc || t.Events[j].From == i
		}
	}
	for k := range n {
		for i := range n {
			for j := range n {
				is[i][j] = is[i][j] || is[i][k] && is[k][j]
			}
		}
	}
	before := make([]int, n)
	for i := range n {
		for j := range n {
			if is[i][j] {
				before[j] |= 1 << i
			}
		}
	}
	return before
}

// wantOf picks a process's events, from the last one on.
func wantOf(t api.Trace, proc int) []int {
	var of []int
	for i := len(t.Events) - 1; i >= 0; i-- {
		if t.Events[i].Proc == proc {
			of = slices.Insert(of, 0, i)
		}
	}
	return of
}

// hold all calls on one trace against the plain ways above.
func hold(t *testing.T, tr api.Trace) {
	t.Helper()
	want := wantCheck(tr)
	if want != api.OK {
		tells(t, fmt.Sprint(tr), tr, want)
		return
	}
	if err := trace.Check(tr); err != nil {
		t.Fatalf("Check %v: got %v", tr, err)
	}
	if got, err := trace.Before(tr); err != nil || !slices.Equal(got, wantBefore(tr)) {
		t.Fatalf("Before %v: got %v, %v, want %v", tr, got, err, wantBefore(tr))
	}
	for proc := -1; proc <= tr.Procs; proc++ {
		want := api.OK
		if proc < 0 || proc == tr.Procs {
			want = api.ErrRange
		}
		if got, err := trace.Of(tr, proc); plain.Told(err) != want || !slices.Equal(got, wantOf(tr, proc)) {
			t.Fatalf("Of %v %d: got %v, %v, want %v, %v", tr, proc, got, err, wantOf(tr, proc), want)
		}
	}
}

// everyTrace calls of with all lists of n events whose numbers are from a bit below to a bit above what may be.
func everyTrace(procs, n int, of func(t api.Trace)) {
	t := api.Trace{Procs: procs, Events: make([]api.Event, n)}
	var fill func(i int)
	fill = func(i int) {
		if i == n {
			of(t)
			return
		}
		for proc := -1; proc <= max(procs, 0); proc++ {
			for from := -2; from <= i+1; from++ {
				t.Events[i] = api.Event{Proc: proc, From: from}
				fill(i + 1)
			}
		}
	}
	fill(0)
}

// TestEvery holds 5.1, and Before of 5.2, at all lists of up to three events, with and without faults, and at all traces of four and five events of few processes.
func TestEvery(t *testing.T) {
	for procs := -1; procs <= api.MaxProcs+1; procs++ {
		for n := range 4 {
			everyTrace(procs, n, func(tr api.Trace) { hold(t, tr) })
		}
	}
	for procs := 1; procs <= 3; procs++ {
		for n := 4; n <= 5; n++ {
			for _, tr := range everyGood(procs, n) {
				hold(t, tr)
			}
		}
	}
}

// everyGood trace of n events.
func everyGood(procs, n int) []api.Trace {
	all := []api.Trace{{Procs: procs}}
	for i := range n {
		var longer []api.Trace
		for _, t := range all {
			for proc := range procs {
				for from := -1; from < i; from++ {
					if from < 0 || t.Events[from].Proc != proc {
						events := append(slices.Clone(t.Events), api.Event{Proc: proc, From: from})
						longer = append(longer, api.Trace{Procs: procs, Events: events})
					}
				}
			}
		}
		all = longer
	}
	return all
}

// everyTelling of a trace, as texts: all orders that keep each process's events in a row, and each event behind the one that it heard of.
func everyTelling(t api.Trace) map[string]bool {
	all := map[string]bool{}
	var tell func(order []int)
	tell = func(order []int) {
		if len(order) == len(t.Events) {
			all[fmt.Sprint(told(t, order))] = true
		}
		for i, e := range t.Events {
			ready := !slices.Contains(order, i) && (e.From < 0 || slices.Contains(order, e.From))
			for j := range i {
				ready = ready && (t.Events[j].Proc != e.Proc || slices.Contains(order, j))
			}
			if ready {
				tell(append(slices.Clone(order), i))
			}
		}
	}
	tell(nil)
	return all
}

// told in another order: the same events, each of which heard of the same one.
func told(t api.Trace, order []int) api.Trace {
	u := api.Trace{Procs: t.Procs}
	for _, i := range order {
		e := t.Events[i]
		if e.From >= 0 {
			e.From = slices.Index(order, e.From)
		}
		u.Events = append(u.Events, e)
	}
	return u
}

// TestEveryPair holds Same of 5.2 against telling the one in all orders in which it may be told, at all pairs of small traces.
func TestEveryPair(t *testing.T) {
	var all []api.Trace
	for procs := 1; procs <= 3; procs++ {
		for n := range 4 {
			all = append(all, everyGood(procs, n)...)
		}
	}
	holdPairs(t, all)
	holdPairs(t, everyGood(2, 4))
	holdPairs(t, everyGood(3, 4))
}

// holdPairs holds Same at all pairs of some traces.
func holdPairs(t *testing.T, all []api.Trace) {
	t.Helper()
	texts := make([]string, len(all))
	for i, tr := range all {
		texts[i] = fmt.Sprint(tr)
	}
	for i, tr := range all {
		tellings := everyTelling(tr)
		for j, u := range all {
			if got, err := trace.Same(tr, u); err != nil || got != tellings[texts[j]] {
				t.Fatalf("Same %s %s: got %v, %v", texts[i], texts[j], got, err)
			}
		}
	}
}
