package cut_test

import (
	"fmt"
	"math"
	"slices"
	"testing"

	"whenstead/api"
	"whenstead/cut"
	"whenstead/plain"
)

// tells: Events, Is and Line tell an error, and answer nothing beside it.
func tells(t *testing.T, name string, tr api.Trace, c []int, want api.Errno) {
	t.Helper()
	if got, err := cut.Events(tr, c); plain.Told(err) != want || got != 0 {
		t.Errorf("%s: Events: got %v, %v, want %v", name, got, err, want)
	}
	if got, err := cut.Is(tr, c); plain.Told(err) != want || got {
		t.Errorf("%s: Is: got %v, %v, want %v", name, got, err, want)
	}
	if got, err := cut.Line(tr, c); plain.Told(err) != want || got != nil {
		t.Errorf("%s: Line: got %v, %v, want %v", name, got, err, want)
	}
}

// badTrace is one of which chapter 5's Check tells something.
type badTrace struct {
	name string
	t    api.Trace
	want api.Errno
}

// badTraces of all kinds.
func badTraces() []badTrace {
	const most, procs = api.MaxEvents, api.MaxProcs
	many := with(apart(1, most+1), 1, 0, 0)
	none := many
	none.Procs = 0
	return []badTrace{
		{"no process", traceOf(0), api.ErrRange},
		{"no process, but an event", traceOf(0, 0, -1), api.ErrRange},
		{"processes below 0", traceOf(-1), api.ErrRange},
		{"a process more than may be", traceOf(procs+1, procs, -1), api.ErrRange},
		{"least number of processes", traceOf(math.MinInt), api.ErrRange},
		{"greatest number of processes", traceOf(math.MaxInt, 0, -1), api.ErrRange},
		{"an event more than may be, apart", apart(procs, most+1), api.ErrFull},
		{"an event more than may be, passed on", passedOn(procs, most+1), api.ErrFull},
		{"many more events", apart(2, 1<<16), api.ErrFull},
		{"Proc below 0", traceOf(2, 0, -1, -1, -1), api.ErrRange},
		{"Proc is the next process", traceOf(2, 2, -1), api.ErrRange},
		{"Proc is the next process of most", with(apart(procs, most), most-1, procs, -1), api.ErrRange},
		{"From below -1", traceOf(2, 0, -1, 1, -2), api.ErrRange},
		{"heard of itself", traceOf(2, 0, 0), api.ErrRange},
		{"heard of one told behind it", traceOf(2, 0, 1, 1, -1), api.ErrRange},
		{"heard of one behind all", traceOf(2, 0, -1, 1, 2), api.ErrRange},
		{"heard of one at its process", traceOf(2, 0, -1, 0, 0), api.ErrClash},
		{"heard at one process alone", traceOf(1, 0, -1, 0, 0), api.ErrClash},
		{"heard of one at its process, the last of most", with(apart(procs, most), most-1, 3, 3), api.ErrClash},

		{"no process, too many events, a clash", none, api.ErrRange},
		{"too many events, a clash", many, api.ErrFull},
		{"clash, then no process", traceOf(2, 0, -1, 0, 0, 2, -1), api.ErrClash},
		{"no process, then clash", traceOf(2, 0, -1, 2, -1, 0, 0), api.ErrRange},
	}
}

// alike: n numbers that are the same.
func alike(x, n int) []int { return slices.Repeat([]int{x}, n) }

// TestTraceFaults holds 8.1: what chapter 5's Check tells comes first, whatever the numbers are, and however many.
func TestTraceFaults(t *testing.T) {
	for _, x := range badTraces() {
		for _, n := range []int{0, 1, 2, 5, 6, 7, 24} {
			for _, number := range []int{0, 1, -1, 25, math.MinInt, math.MaxInt} {
				tells(t, fmt.Sprintf("%s, %d times %d", x.name, n, number), x.t, alike(number, n), x.want)
			}
		}
		if got, err := cut.Count(x.t); plain.Told(err) != x.want || got != 0 {
			t.Errorf("%s: Count: got %v, %v, want %v", x.name, got, err, x.want)
		}
	}
}

// goodTraces of all sizes.
func goodTraces() []api.Trace {
	return []api.Trace{traceOf(1), traceOf(5), apart(1, 1), traceOf(3, 1, -1), apart(2, 5), passedOn(3, 7), traceOf(4, 3, -1, 1, 0, 3, -1), apart(1, 24), apart(5, 24), passedOn(5, 24)}
}

// allIn: the cut that has all events of a trace.
func allIn(t api.Trace) []int {
	all := make([]int, t.Procs)
	for _, e := range t.Events {
		all[e.Proc]++
	}
	return all
}

// TestShape holds 8.1: there are not as many numbers as processes, more or fewer, and this comes ahead of what the numbers are.
func TestShape(t *testing.T) {
	for _, tr := range goodTraces() {
		for _, n := range []int{0, 1, 2, 3, 4, 5, 6, 7, 24, 100000} {
			if n == tr.Procs {
				continue
			}
			for _, number := range []int{0, 1, -1, 25, math.MinInt, math.MaxInt} {
				tells(t, fmt.Sprintf("%v, %d times %d", tr, n, number), tr, alike(number, n), api.ErrShape)
			}
		}
		all := allIn(tr)
		tells(t, fmt.Sprint(tr, ", a 0 more"), tr, append(slices.Clone(all), 0), api.ErrShape)
		tells(t, fmt.Sprint(tr, ", the last one left out"), tr, all[:len(all)-1], api.ErrShape)
		tells(t, fmt.Sprint(tr, ", the first one left out"), tr, all[1:], api.ErrShape)
	}
}

// TestNumberRange holds 8.1: a number below 0, or above how many events there are, at each process, whatever the others are; those right at the ends may be.
func TestNumberRange(t *testing.T) {
	for _, tr := range goodTraces() {
		all := allIn(tr)
		for proc, most := range all {
			for _, others := range [][]int{make([]int, tr.Procs), all} {
				c := slices.Clone(others)
				for _, bad := range []int{-1, -2, -24, -1 << 32, math.MinInt, most + 1, most + 2, most + 24, 1 << 32, 1<<32 + most, math.MaxInt} {
					c[proc] = bad
					tells(t, fmt.Sprint(tr, c), tr, c, api.ErrRange)
				}
				for _, good := range []int{0, most} {
					c[proc] = good
					if _, err := cut.Events(tr, c); err != nil {
						t.Errorf("%v %v: got %v", tr, c, err)
					}
				}
			}
		}
	}
}

// TestSeveralNumbers holds 8.1: several that may not be, and others' numbers that would do elsewhere.
func TestSeveralNumbers(t *testing.T) {
	tr := traceOf(3, 0, -1, 2, -1, 2, 0, 2, -1)
	for _, c := range [][]int{{-1, -1, -1}, {2, 1, 4}, {-1, 0, 4}, {1, -1, 3}, {0, 1, 0}, {3, 0, 1}, {3, 1, 0}, {0, 3, 1}, {1, 3, 0}, {2, 0, 3}, {1, 0, 4}} {
		tells(t, fmt.Sprint(c), tr, c, api.ErrRange)
	}
}
