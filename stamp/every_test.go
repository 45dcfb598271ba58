package stamp_test

import (
	"fmt"
	"slices"
	"testing"

	"whenstead/api"
	"whenstead/plain"
	"whenstead/stamp"
	"whenstead/trace"
)

// ahead gives the event ahead of one at its process, or -1.
func ahead(t api.Trace, i int) int {
	for j := i - 1; j >= 0; j-- {
		if t.Events[j].Proc == t.Events[i].Proc {
			return j
		}
	}
	return -1
}

// wantClock goes by the words of 6.1, from one event back to those that it names.
func wantClock(t api.Trace, i int, known map[int]int) int {
	if i < 0 {
		return 0
	}
	if known[i] == 0 {
		known[i] = 1 + max(wantClock(t, ahead(t, i), known), wantClock(t, t.Events[i].From, known))
	}
	return known[i]
}

// wantPlain clocks, from the last event on.
func wantPlain(t api.Trace) []int {
	known := map[int]int{}
	clocks := make([]int, len(t.Events))
	for i := len(clocks) - 1; i >= 0; i-- {
		clocks[i] = wantClock(t, i, known)
	}
	return clocks
}

// mark an event, and all that happened before it.
func mark(t api.Trace, i int, marked []bool) {
	if i >= 0 && !marked[i] {
		marked[i] = true
		mark(t, ahead(t, i), marked)
		mark(t, t.Events[i].From, marked)
	}
}

// wantVectors counts, of each event by itself, all that are marked.
func wantVectors(t api.Trace) [][]int {
	var rows [][]int
	for i := range t.Events {
		marked := make([]bool, len(t.Events))
		mark(t, i, marked)
		row := make([]int, t.Procs)
		for j, e := range t.Events {
			if marked[j] {
				row[e.Proc]++
			}
		}
		rows = append(rows, row)
	}
	return rows
}

// wantRow picks, clock by clock and process by process, the events that have both.
func wantRow(t api.Trace) []int {
	clocks := wantPlain(t)
	var row []int
	for clock := range len(clocks) + 1 {
		for proc := range t.Procs {
			for i, e := range t.Events {
				if clocks[i] == clock && e.Proc == proc {
					row = append(row, i)
				}
			}
		}
	}
	return row
}

// wantBelow counts the places of each kind.
func wantBelow(v, w []int) bool {
	under, over := 0, 0
	for i := range v {
		switch {
		case v[i] < w[i]:
			under++
		case v[i] > w[i]:
			over++
		}
	}
	return under > 0 && over == 0
}

// hold all calls on one trace against the plain ways above, and against what chapter 5 tells.
func hold(t *testing.T, tr api.Trace) {
	t.Helper()
	if err := trace.Check(tr); err != nil {
		tells(t, fmt.Sprint(tr), tr, plain.Told(err))
		return
	}
	if got, err := stamp.Plain(tr); err != nil || !slices.Equal(got, wantPlain(tr)) {
		t.Fatalf("Plain %v: got %v, %v, want %v", tr, got, err, wantPlain(tr))
	}
	if got, err := stamp.Vectors(tr); err != nil || !same(got, wantVectors(tr)) {
		t.Fatalf("Vectors %v: got %v, %v, want %v", tr, got, err, wantVectors(tr))
	}
	if got, err := stamp.Row(tr); err != nil || !slices.Equal(got, wantRow(tr)) {
		t.Fatalf("Row %v: got %v, %v, want %v", tr, got, err, wantRow(tr))
	}
	holdBefore(t, tr)
}

// holdBefore: who is before has less by the plain clock, stands ahead in the row, and is just below by the vectors.
func holdBefore(t *testing.T, tr api.Trace) {
	t.Helper()
	before, err1 := trace.Before(tr)
	clocks, err2 := stamp.Plain(tr)
	vectors, err3 := stamp.Vectors(tr)
	row, err4 := stamp.Row(tr)
	if err1 != nil || err2 != nil || err3 != nil || err4 != nil {
		t.Fatal(tr, err1, err2, err3, err4)
	}
	for i := range before {
		for j := range before {
			is := before[j]>>i&1 == 1
			if is && (clocks[i] >= clocks[j] || slices.Index(row, i) >= slices.Index(row, j)) {
				t.Fatalf("%v: %d is before %d, but clocks are %v, and the row %v", tr, i, j, clocks, row)
			}
			if got, err := stamp.Below(vectors[i], vectors[j]); err != nil || got != is {
				t.Fatalf("%v: %d before %d is %v, but Below %v %v: %v, %v", tr, i, j, is, vectors[i], vectors[j], got, err)
			}
		}
	}
}

// everyTrace calls of with all lists of n events whose numbers are from least below to over above what may be.
func everyTrace(procs, n, least, over int, of func(t api.Trace)) {
	t := api.Trace{Procs: procs, Events: make([]api.Event, n)}
	var fill func(i int)
	fill = func(i int) {
		if i == n {
			of(t)
			return
		}
		for proc := -least; proc < procs+over; proc++ {
			for from := -1 - least; from < i+over; from++ {
				t.Events[i] = api.Event{Proc: proc, From: from}
				fill(i + 1)
			}
		}
	}
	fill(0)
}

// TestEvery holds 6.1 at all lists of up to three events, with and without faults, and at all of four and five events of few processes.
func TestEvery(t *testing.T) {
	for procs := -1; procs <= api.MaxProcs+1; procs++ {
		for n := range 4 {
			everyTrace(procs, n, 1, 1, func(tr api.Trace) { hold(t, tr) })
		}
	}
	for procs := 1; procs <= 3; procs++ {
		for n := 4; n <= 5; n++ {
			everyTrace(procs, n, 0, 0, func(tr api.Trace) { hold(t, tr) })
		}
	}
}

// everyList of n numbers out of some.
func everyList(numbers []int, n int) [][]int {
	all := [][]int{nil}
	for range n {
		var longer [][]int
		for _, l := range all {
			for _, x := range numbers {
				longer = append(longer, append(slices.Clone(l), x))
			}
		}
		all = longer
	}
	return all
}

// TestEveryBelow holds 6.1 at all pairs of short lists of few numbers, also of such that have not as many.
func TestEveryBelow(t *testing.T) {
	var all [][]int
	for n := range 5 {
		all = append(all, everyList([]int{-1, 0, 1}, n)...)
	}
	for _, v := range all {
		for _, w := range all {
			want, is := api.ErrShape, false
			if len(v) == len(w) {
				want, is = api.OK, wantBelow(v, w)
			}
			if got, err := stamp.Below(v, w); plain.Told(err) != want || got != is {
				t.Fatalf("%v %v: got %v, %v, want %v, %v", v, w, got, err, is, want)
			}
		}
	}
}
