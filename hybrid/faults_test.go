package hybrid_test

import (
	"fmt"
	"math"
	"slices"
	"testing"

	"whenstead/api"
	"whenstead/hybrid"
	"whenstead/plain"
)

// tells: Check and Stamps tell an error, and Stamps answers nothing beside it.
func tells(t *testing.T, name string, tr api.Trace, times []int, want api.Errno) {
	t.Helper()
	if err := hybrid.Check(tr, times); plain.Told(err) != want {
		t.Errorf("%s: Check: got %v, want %v", name, err, want)
	}
	if got, err := hybrid.Stamps(tr, times); plain.Told(err) != want || got != nil {
		t.Errorf("%s: Stamps: got %v, %v, want %v", name, got, err, want)
	}
}

// badTrace is one of which chapter 5's Check tells something.
type badTrace struct {
	name string
	t    api.Trace
	want api.Errno
}

// badTraces of all kinds.
func badTraces() []badTrace {
	const most, procs = api.MaxEvents, api.MaxProcs
	many := with(apart(1, most+1), 1, 0, 0)
	none := many
	none.Procs = 0
	return []badTrace{
		{"no process", traceOf(0), api.ErrRange},
		{"no process, but an event", traceOf(0, 0, -1), api.ErrRange},
		{"processes below 0", traceOf(-1), api.ErrRange},
		{"a process more than may be", traceOf(procs+1, procs, -1), api.ErrRange},
		{"least number of processes", traceOf(math.MinInt), api.ErrRange},
		{"greatest number of processes", traceOf(math.MaxInt, 0, -1), api.ErrRange},
		{"an event more than may be, apart", apart(procs, most+1), api.ErrFull},
		{"an event more than may be, passed on", passedOn(procs, most+1), api.ErrFull},
		{"many more events", apart(2, 1<<16), api.ErrFull},
		{"Proc below 0", traceOf(2, 0, -1, -1, -1), api.ErrRange},
		{"Proc is the next process", traceOf(2, 2, -1), api.ErrRange},
		{"Proc is the next process of most", with(apart(procs, most), most-1, procs, -1), api.ErrRange},
		{"From below -1", traceOf(2, 0, -1, 1, -2), api.ErrRange},
		{"heard of itself", traceOf(2, 0, 0), api.ErrRange},
		{"heard of one told behind it", traceOf(2, 0, 1, 1, -1), api.ErrRange},
		{"heard of one behind all", traceOf(2, 0, -1, 1, 2), api.ErrRange},
		{"heard of one at its process", traceOf(2, 0, -1, 0, 0), api.ErrClash},
		{"heard at one process alone", traceOf(1, 0, -1, 0, 0), api.ErrClash},
		{"heard of one at its process, the last of most", with(apart(procs, most), most-1, 3, 3), api.ErrClash},

		{"no process, too many events, a clash", none, api.ErrRange},
		{"too many events, a clash", many, api.ErrFull},
		{"clash, then no process", traceOf(2, 0, -1, 0, 0, 2, -1), api.ErrClash},
		{"no process, then clash", traceOf(2, 0, -1, 2, -1, 0, 0), api.ErrRange},
	}
}

// TestTraceFaults holds 7.1: what chapter 5's Check tells comes first, whatever the times are, and however many.
func TestTraceFaults(t *testing.T) {
	for _, c := range badTraces() {
		n := len(c.t.Events)
		for _, times := range [][]int{evenly(0, 0, n), evenly(top, 0, n), evenly(-1, 0, n), evenly(top+1, 0, n), nil, evenly(7, 0, n+1), evenly(-1, 0, n+1), evenly(0, 0, max(n-1, 0))} {
			tells(t, fmt.Sprintf("%s, %d times", c.name, len(times)), c.t, times, c.want)
		}
	}
}

// TestShape holds 7.1: there are not as many times as events, more or fewer, and this comes ahead of what the times are.
func TestShape(t *testing.T) {
	for _, tr := range []api.Trace{traceOf(1), traceOf(5), traceOf(1, 0, -1), apart(2, 5), passedOn(3, 7), apart(5, 23), apart(1, 24), passedOn(5, 24)} {
		n := len(tr.Events)
		for _, m := range []int{0, n - 24, n - 2, n - 1, n + 1, n + 2, n + 24, 2*n + 1, 100, 100000} {
			if m < 0 || m == n {
				continue
			}
			for _, time := range []int{0, 7, top, -1, top + 1, math.MinInt, math.MaxInt} {
				tells(t, fmt.Sprintf("%d events, %d times of %d", n, m, time), tr, evenly(time, 0, m), api.ErrShape)
			}
		}
	}
}

// badTimes: such as may not be.
func badTimes() []int {
	return []int{-1, -2, -top, top + 1, top + 2, 2 * top, math.MinInt, math.MaxInt, 1 << 32, 1<<32 + 5, -1 << 32}
}

// TestTimes holds 7.1: a time below 0, or above MaxTime, at the first, a middle and the last place; those right at the ends may be.
func TestTimes(t *testing.T) {
	for _, tr := range []api.Trace{traceOf(1, 0, -1), apart(2, 3), passedOn(3, 7), apart(1, 24), passedOn(5, 24)} {
		n := len(tr.Events)
		for _, i := range []int{0, n / 2, n - 1} {
			for _, others := range []int{0, 7, top} {
				times := evenly(others, 0, n)
				for _, bad := range badTimes() {
					times[i] = bad
					tells(t, fmt.Sprintf("%d events, %d at %d", n, bad, i), tr, times, api.ErrRange)
				}
				for _, good := range []int{0, 1, top - 1, top} {
					times[i] = good
					if err := hybrid.Check(tr, times); err != nil {
						t.Errorf("%d events, %d at %d: got %v", n, good, i, err)
					}
				}
			}
		}
	}
}

// TestSeveralTimes: bad times at several places.
func TestSeveralTimes(t *testing.T) {
	for _, times := range [][]int{{-1, -1, -1}, {top + 1, -1, 5}, {5, -1, top + 1}, {-1, 0, top + 1}, {math.MinInt, math.MaxInt, 0}} {
		tells(t, fmt.Sprint(times), passedOn(2, 3), times, api.ErrRange)
	}
}

// TestMaxTime: the number stands in package api as the chapter names it.
func TestMaxTime(t *testing.T) {
	one := traceOf(1, 0, -1)
	if got, err := hybrid.Stamps(one, at(1000000)); err != nil || !slices.Equal(got, stamped(1000000, 0)) || api.MaxTime != 1000000 {
		t.Errorf("got %v, %v", got, err)
	}
	tells(t, "1000001", one, at(1000001), api.ErrRange)
}
