package hybrid_test

import (
	"fmt"
	"math"
	"slices"
	"testing"

	"whenstead/api"
	"whenstead/hybrid"
	"whenstead/plain"
	"whenstead/trace"
)

// wantCheck goes through the faults of 7.1 in its words.
func wantCheck(t api.Trace, times []int) api.Errno {
	if err := trace.Check(t); err != nil {
		return plain.Told(err)
	}
	if len(times) != len(t.Events) {
		return api.ErrShape
	}
	if len(times) > 0 && (slices.Min(times) < 0 || slices.Max(times) > 1000000) {
		return api.ErrRange
	}
	return api.OK
}

// ahead gives the event ahead of one at its process, or -1.
func ahead(t api.Trace, i int) int {
	for j := i - 1; j >= 0; j-- {
		if t.Events[j].Proc == t.Events[i].Proc {
			return j
		}
	}
	return -1
}

// wantStamp goes by the words of 7.2, from one event back to those that it names.
func wantStamp(t api.Trace, times []int, i int, known map[int]api.Stamp) api.Stamp {
	if s, ok := known[i]; ok {
		return s
	}
	var two []api.Stamp
	for _, j := range []int{ahead(t, i), t.Events[i].From} {
		if j >= 0 {
			two = append(two, wantStamp(t, times, j, known))
		}
	}
	s := api.Stamp{Time: times[i]}
	for _, x := range two {
		s.Time = max(s.Time, x.Time)
	}
	for _, x := range two {
		if x.Time == s.Time {
			s.Count = max(s.Count, x.Count+1)
		}
	}
	known[i] = s
	return s
}

// wantStamps, from the last event on.
func wantStamps(t api.Trace, times []int) []api.Stamp {
	known := map[int]api.Stamp{}
	stamps := make([]api.Stamp, len(t.Events))
	for i := len(stamps) - 1; i >= 0; i-- {
		stamps[i] = wantStamp(t, times, i, known)
	}
	return stamps
}

// wantLess counts Time as a first digit, and Count as a second one, of small stamps.
func wantLess(a, b api.Stamp) bool { return a.Time*1000+a.Count < b.Time*1000+b.Count }

// hold Check and Stamps against the plain ways above, and against what chapter 5 tells.
func hold(t *testing.T, tr api.Trace, times []int) {
	t.Helper()
	if want := wantCheck(tr, times); want != api.OK {
		tells(t, fmt.Sprint(tr, times), tr, times, want)
		return
	}
	if err := hybrid.Check(tr, times); err != nil {
		t.Fatalf("Check %v %v: got %v", tr, times, err)
	}
	got, err := hybrid.Stamps(tr, times)
	if err != nil || !slices.Equal(got, wantStamps(tr, times)) {
		t.Fatalf("Stamps %v %v: got %v, %v, want %v", tr, times, got, err, wantStamps(tr, times))
	}
	holdBefore(t, tr, times, got)
}

// holdBefore: who is before has less, no Time is below the event's own, and none is that of no event up to it.
func holdBefore(t *testing.T, tr api.Trace, times []int, stamps []api.Stamp) {
	t.Helper()
	before, err := trace.Before(tr)
	if err != nil {
		t.Fatal(tr, err)
	}
	for j, s := range stamps {
		from := times[j] == s.Time
		for i := range stamps {
			if before[j]>>i&1 == 0 {
				continue
			}
			from = from || times[i] == s.Time
			if !hybrid.Less(stamps[i], s) || hybrid.Less(s, stamps[i]) {
				t.Fatalf("%v %v: %d is before %d, but stamps are %v", tr, times, i, j, stamps)
			}
		}
		if s.Time < times[j] || s.Count < 0 || s.Count >= len(stamps) || !from {
			t.Fatalf("%v %v: stamps are %v", tr, times, stamps)
		}
	}
}

// everyTrace calls of with all lists of n events whose numbers are from least below to over above what may be.
func everyTrace(procs, n, least, over int, of func(t api.Trace)) {
	t := api.Trace{Procs: procs, Events: make([]api.Event, n)}
	var fill func(i int)
	fill = func(i int) {
		if i == n {
			of(t)
			return
		}
		for proc := -least; proc < procs+over; proc++ {
			for from := -1 - least; from < i+over; from++ {
				t.Events[i] = api.Event{Proc: proc, From: from}
				fill(i + 1)
			}
		}
	}
	fill(0)
}

// everyList of n numbers out of some.
func everyList(numbers []int, n int) [][]int {
	all := [][]int{nil}
	for range n {
		var longer [][]int
		for _, l := range all {
			for _, x := range numbers {
				longer = append(longer, append(slices.Clone(l), x))
			}
		}
		all = longer
	}
	return all
}

// TestEvery holds 7.1 and 7.2 at all lists of up to two events and up to three times, with and without faults.
func TestEvery(t *testing.T) {
	var lists [][]int
	for n := range 4 {
		lists = append(lists, everyList([]int{-1, 0, 1, top, top + 1}, n)...)
	}
	for procs := -1; procs <= api.MaxProcs+1; procs++ {
		for n := range 3 {
			everyTrace(procs, n, 1, 1, func(tr api.Trace) {
				for _, times := range lists {
					hold(t, tr, times)
				}
			})
		}
	}
}

// TestEveryGood holds 7.2 at all traces of three to five events of few processes, at all times out of few.
func TestEveryGood(t *testing.T) {
	for _, c := range []struct {
		procs, n int
		numbers  []int
	}{{1, 5, at(0, 1, 2)}, {2, 3, at(0, 1, 2, top)}, {2, 4, at(0, 1, 2)}, {2, 5, at(0, 1)}, {3, 3, at(0, 1, 2, top)}, {3, 4, at(0, 1, 2)}} {
		lists := everyList(c.numbers, c.n)
		everyTrace(c.procs, c.n, 0, 0, func(tr api.Trace) {
			if trace.Check(tr) != nil {
				return
			}
			for _, times := range lists {
				hold(t, tr, times)
			}
		})
	}
}

// everyStamp out of some numbers.
func everyStamp(numbers []int) []api.Stamp {
	var all []api.Stamp
	for _, l := range everyList(numbers, 2) {
		all = append(all, stampOf(l[0], l[1]))
	}
	return all
}

// TestEveryLess holds 7.1 at all pairs of small stamps.
func TestEveryLess(t *testing.T) {
	all := everyStamp(evenly(-4, 1, 9))
	for _, a := range all {
		for _, b := range all {
			if got := hybrid.Less(a, b); got != wantLess(a, b) {
				t.Fatalf("%v %v: got %v", a, b, got)
			}
		}
	}
}

// TestLessIsARow: stamps of the least and the greatest numbers, and some between, rise from one to the next, and over several.
func TestLessIsARow(t *testing.T) {
	all := everyStamp(at(math.MinInt, math.MinInt+1, -1<<32, -top, -1, 0, 1, top, 1<<32, math.MaxInt-1, math.MaxInt))
	for i, a := range all {
		for j, b := range all {
			if got := hybrid.Less(a, b); got != (i < j) {
				t.Fatalf("%v %v: got %v", a, b, got)
			}
		}
	}
}
