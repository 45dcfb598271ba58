package trace_test

import (
	"math"
	"slices"
	"testing"

	"whenstead/api"
	"whenstead/plain"
	"whenstead/trace"
)

// traceOf processes: of each event where it is, and of which it heard.
func traceOf(procs int, told ...int) api.Trace {
	t := api.Trace{Procs: procs}
	for i := 0; i < len(told); i += 2 {
		t.Events = append(t.Events, api.Event{Proc: told[i], From: told[i+1]})
	}
	return t
}

// apart: n events, at one process after the other, none of which heard of another one.
func apart(procs, n int) api.Trace {
	t := api.Trace{Procs: procs}
	for i := range n {
		t.Events = append(t.Events, api.Event{Proc: i % procs, From: -1})
	}
	return t
}

// passedOn: n events, at one process after the other, each of which heard of the one ahead of it.
func passedOn(procs, n int) api.Trace {
	t := apart(procs, n)
	for i := range t.Events {
		t.Events[i].From = i - 1
	}
	return t
}

// with another event at a place.
func with(t api.Trace, i, proc, from int) api.Trace {
	t.Events = slices.Clone(t.Events)
	t.Events[i] = api.Event{Proc: proc, From: from}
	return t
}

// TestCheck holds 5.1: what is no trace, and which fault is told first; all other calls tell it, too.
func TestCheck(t *testing.T) {
	const most, procs = api.MaxEvents, api.MaxProcs
	for _, c := range []struct {
		name string
		t    api.Trace
		want api.Errno
	}{
		{"no events, one process", traceOf(1), api.OK},
		{"no events, as many processes as may be", traceOf(procs), api.OK},
		{"one process alone", apart(1, 3), api.OK},
		{"the last process of most", traceOf(procs, procs-1, -1), api.OK},
		{"heard of the one just ahead", traceOf(2, 0, -1, 1, 0), api.OK},
		{"heard of the first of many", with(apart(2, 8), 7, 1, 0), api.OK},
		{"several heard of one", traceOf(3, 0, -1, 1, 0, 2, 0, 1, 0), api.OK},
		{"as many as may be, apart", apart(procs, most), api.OK},
		{"as many as may be, passed on", passedOn(procs, most), api.OK},
		{"as many as may be, one process", apart(1, most), api.OK},

		{"no process", traceOf(0), api.ErrRange},
		{"processes below 0", traceOf(-1), api.ErrRange},
		{"least number of processes", traceOf(math.MinInt), api.ErrRange},
		{"a process more than may be", traceOf(procs + 1), api.ErrRange},
		{"greatest number of processes", traceOf(math.MaxInt), api.ErrRange},
		{"no process, an event", traceOf(0, 0, -1), api.ErrRange},
		{"a process more than may be, an event", traceOf(procs+1, procs, -1), api.ErrRange},

		{"an event more than may be, apart", apart(procs, most+1), api.ErrFull},
		{"an event more than may be, passed on", passedOn(procs, most+1), api.ErrFull},
		{"an event more than may be, one process", apart(1, most+1), api.ErrFull},
		{"many more", apart(2, 1<<20), api.ErrFull},

		{"Proc below 0", traceOf(2, -1, -1), api.ErrRange},
		{"Proc is the next process", traceOf(2, 2, -1), api.ErrRange},
		{"Proc is the next process of one", traceOf(1, 1, -1), api.ErrRange},
		{"Proc is the next process of most", traceOf(procs, procs, -1), api.ErrRange},
		{"Proc is the next process, at the last of most", with(apart(2, most), most-1, 2, -1), api.ErrRange},
		{"Proc is no process, but heard of one", traceOf(2, 0, -1, 2, 0), api.ErrRange},
		{"least Proc", traceOf(2, math.MinInt, -1), api.ErrRange},
		{"greatest Proc", traceOf(2, math.MaxInt, -1), api.ErrRange},

		{"From below -1", traceOf(2, 0, -1, 1, -2), api.ErrRange},
		{"From below -1, the first", traceOf(2, 0, -2), api.ErrRange},
		{"least From", traceOf(2, 0, -1, 1, math.MinInt), api.ErrRange},
		{"heard of itself", traceOf(2, 0, -1, 1, 1), api.ErrRange},
		{"heard of itself, the first", traceOf(2, 0, 0), api.ErrRange},
		{"heard of itself, the last of most", with(apart(procs, most), most-1, 3, most-1), api.ErrRange},
		{"heard of one told behind it", traceOf(2, 0, 1, 1, -1), api.ErrRange},
		{"heard of the last, told behind it", with(apart(2, 8), 2, 0, 7), api.ErrRange},
		{"heard of one told behind it, at the same process", traceOf(2, 0, 1, 0, -1), api.ErrRange},
		{"heard of one behind all", traceOf(2, 0, -1, 1, 2), api.ErrRange},
		{"greatest From", traceOf(2, 0, -1, 1, math.MaxInt), api.ErrRange},

		{"heard of the one ahead at the same process", traceOf(2, 0, -1, 0, 0), api.ErrClash},
		{"heard at one process alone", traceOf(1, 0, -1, 0, 0), api.ErrClash},
		{"heard of the first, at the same process", with(apart(2, 8), 6, 0, 0), api.ErrClash},
		{"heard at the same process, the last of most", with(apart(procs, most), most-1, 3, 3), api.ErrClash},
	} {
		tells(t, c.name, c.t, c.want)
	}
}

// TestFirstFault holds what 5.1 says of several faults: the number of processes, then that of events, then event by event.
func TestFirstFault(t *testing.T) {
	const most, procs = api.MaxEvents, api.MaxProcs
	many := func(procs int) api.Trace {
		t := apart(1, most+1)
		t.Procs = procs
		return t
	}
	for _, c := range []struct {
		name string
		t    api.Trace
		want api.Errno
	}{
		{"no process, too many events", many(0), api.ErrRange},
		{"too many processes, too many events", many(procs + 1), api.ErrRange},
		{"no process, a clash", traceOf(0, 0, -1, 0, 0), api.ErrRange},
		{"too many processes, a clash", traceOf(procs+1, 0, -1, 0, 0), api.ErrRange},
		{"too many events, the first at no process", with(many(1), 0, 1, -1), api.ErrFull},
		{"too many events, heard of one behind", with(many(1), 0, 0, 1), api.ErrFull},
		{"too many events, a clash", with(many(1), 1, 0, 0), api.ErrFull},
		{"too many events, the last at no process", with(many(1), most, -1, -1), api.ErrFull},

		{"clash, then no process", traceOf(2, 0, -1, 0, 0, 2, -1), api.ErrClash},
		{"clash, then Proc below 0", traceOf(2, 0, -1, 0, 0, -1, -1), api.ErrClash},
		{"clash, then From below -1", traceOf(2, 0, -1, 0, 0, 1, -2), api.ErrClash},
		{"clash, then heard of itself", traceOf(2, 0, -1, 0, 0, 1, 2), api.ErrClash},
		{"no process, then clash", traceOf(2, 0, -1, 2, -1, 0, 0), api.ErrRange},
		{"From below -1, then clash", traceOf(2, 0, -1, 1, -2, 0, 0), api.ErrRange},
		{"heard of itself, then clash", traceOf(2, 0, -1, 1, 1, 0, 0), api.ErrRange},
		{"no process, then one that heard of it there", traceOf(2, 2, -1, 2, 0), api.ErrRange},
		{"no process, and heard of itself", traceOf(2, 0, -1, 2, 1), api.ErrRange},
		{"clash, then clash", traceOf(2, 0, -1, 0, 0, 0, 0), api.ErrClash},
	} {
		tells(t, c.name, c.t, c.want)
	}
}

// tells: Check tells an error, and so do all other calls, ahead of what else is wrong, and answer nothing beside it.
func tells(t *testing.T, name string, tr api.Trace, want api.Errno) {
	t.Helper()
	if got := plain.Told(trace.Check(tr)); got != want {
		t.Errorf("%s: Check: got %v, want %v", name, got, want)
	}
	if got, err := trace.Before(tr); plain.Told(err) != want || err != nil && got != nil {
		t.Errorf("%s: Before: got %v, %v, want %v", name, got, err, want)
	}
	if got, err := trace.Same(tr, tr); plain.Told(err) != want || got != (want == api.OK) {
		t.Errorf("%s: Same: got %v, %v, want %v", name, got, err, want)
	}
	if got, err := trace.Of(tr, 0); plain.Told(err) != want || err != nil && got != nil {
		t.Errorf("%s: Of: got %v, %v, want %v", name, got, err, want)
	}
	if want == api.OK {
		want = api.ErrRange
	}
	for _, proc := range []int{-1, tr.Procs, api.MaxProcs, math.MinInt, math.MaxInt} {
		if got, err := trace.Of(tr, proc); plain.Told(err) != want || got != nil {
			t.Errorf("%s: Of %d: got %v, %v, want %v", name, proc, got, err, want)
		}
	}
}

// TestHeard: -1 alone says that an event heard of none.
func TestHeard(t *testing.T) {
	for from, want := range map[int]bool{-1: false, 0: true, 1: true, api.MaxEvents - 1: true} {
		if got := trace.Heard(api.Event{Proc: 1, From: from}); got != want {
			t.Errorf("From %d: got %v, want %v", from, got, want)
		}
	}
}

// TestOf holds 5.1, at each process, and at such that are none.
func TestOf(t *testing.T) {
	for _, c := range []struct {
		name string
		t    api.Trace
		want [][]int
	}{
		{"no events, one process", traceOf(1), [][]int{nil}},
		{"no events", traceOf(3), [][]int{nil, nil, nil}},
		{"one process alone", apart(1, 4), [][]int{{0, 1, 2, 3}}},
		{"one event", traceOf(3, 1, -1), [][]int{nil, {0}, nil}},
		{"mixed", traceOf(3, 2, -1, 0, 0, 2, 1, 1, -1, 0, 3), [][]int{{1, 4}, {3}, {0, 2}}},
		{"the first process without events", traceOf(2, 1, -1, 1, -1), [][]int{nil, {0, 1}}},
		{"a process without events between", traceOf(3, 2, -1, 0, 0), [][]int{{1}, nil, {0}}},
		{"the last process without events", traceOf(3, 1, -1, 0, 0), [][]int{{1}, {0}, nil}},
		{"most", passedOn(5, 24), [][]int{{0, 5, 10, 15, 20}, {1, 6, 11, 16, 21}, {2, 7, 12, 17, 22}, {3, 8, 13, 18, 23}, {4, 9, 14, 19}}},
	} {
		for proc, want := range c.want {
			if got, err := trace.Of(c.t, proc); err != nil || !slices.Equal(got, want) {
				t.Errorf("%s: process %d: got %v, %v, want %v", c.name, proc, got, err, want)
			}
		}
		for _, proc := range []int{-1, len(c.want), len(c.want) + 1, 64, math.MinInt, math.MaxInt} {
			if got, err := trace.Of(c.t, proc); plain.Told(err) != api.ErrRange || got != nil {
				t.Errorf("%s: process %d: got %v, %v", c.name, proc, got, err)
			}
		}
	}
}

// TestBefore holds 5.2, worked out by hand.
func TestBefore(t *testing.T) {
	const most = api.MaxEvents
	below := make([]int, most)
	every5 := make([]int, most)
	for i := range most {
		below[i] = 1<<i - 1
		for j := i - 5; j >= 0; j -= 5 {
			every5[i] |= 1 << j
		}
	}
	for _, c := range []struct {
		name string
		t    api.Trace
		want []int
	}{
		{"no events, one process", traceOf(1), nil},
		{"no events", traceOf(5), nil},
		{"one event", traceOf(2, 1, -1), []int{0}},
		{"one process alone", apart(1, 4), []int{0, 1, 3, 7}},
		{"one process alone, most", apart(1, most), below},
		{"two processes apart", apart(2, 4), []int{0, 0, 1, 2}},
		{"five processes apart, most", apart(5, most), every5},
		{"heard of one", traceOf(2, 0, -1, 1, 0), []int{0, 1}},
		{"a process without events between", traceOf(3, 2, -1, 0, 0), []int{0, 1}},
		{"passed on over five", passedOn(5, 5), []int{0, 1, 3, 7, 15}},
		{"passed on, most", passedOn(5, most), below},
		{"over what its process did ahead", traceOf(2, 0, -1, 0, -1, 1, 1), []int{0, 1, 3}},
		{"over what it heard earlier", traceOf(2, 0, -1, 1, 0, 1, -1), []int{0, 1, 3}},
		{"over what the other one heard earlier", traceOf(3, 0, -1, 1, 0, 1, -1, 2, 2), []int{0, 1, 3, 7}},
		{"not what the other one did later", traceOf(2, 0, -1, 0, -1, 1, 0), []int{0, 1, 1}},
		{"not what the other one heard later", traceOf(3, 0, -1, 1, -1, 0, 1, 2, 0), []int{0, 0, 3, 1}},
		{"to and fro", traceOf(2, 0, -1, 1, 0, 0, 1, 1, 2), []int{0, 1, 3, 7}},
		{"both heard of each other, across", traceOf(2, 0, -1, 1, -1, 0, 1, 1, 0), []int{0, 0, 3, 3}},
		{"two heard of one", traceOf(3, 1, -1, 0, 0, 2, 0), []int{0, 1, 1}},
		{"heard of one twice", traceOf(2, 0, -1, 1, 0, 1, 0), []int{0, 1, 3}},
		{"heard of a later one first", traceOf(2, 0, -1, 0, -1, 1, 1, 1, 0), []int{0, 1, 3, 7}},
		{"heard of an earlier one first", traceOf(2, 0, -1, 0, -1, 1, 0, 1, 1), []int{0, 1, 1, 7}},
		{"one heard of two, over its own", traceOf(3, 0, -1, 1, -1, 2, 0, 2, 1), []int{0, 0, 1, 7}},
		{"the first of one, by the last of another one", traceOf(2, 0, -1, 1, -1, 1, -1, 0, -1, 1, 0), []int{0, 0, 2, 1, 7}},
	} {
		if got, err := trace.Before(c.t); err != nil || !slices.Equal(got, c.want) {
			t.Errorf("%s: got %v, %v, want %v", c.name, got, err, c.want)
		}
	}
}

// TestSame holds 5.2, both ways round.
func TestSame(t *testing.T) {
	const most, procs = api.MaxEvents, api.MaxProcs
	row := passedOn(procs, most)
	for _, c := range []struct {
		name string
		t, u api.Trace
		want bool
	}{
		{"no events", traceOf(3), traceOf(3), true},
		{"no events, a process more", traceOf(3), traceOf(4), false},
		{"one event", traceOf(2, 1, -1), traceOf(2, 1, -1), true},
		{"one process alone", apart(1, 5), apart(1, 5), true},
		{"most", row, passedOn(procs, most), true},
		{"most, apart", apart(procs, most), apart(procs, most), true},

		{"two told the other way round", traceOf(2, 0, -1, 1, -1), traceOf(2, 1, -1, 0, -1), true},
		{"heard, between what others did", traceOf(3, 0, -1, 2, -1, 1, 0), traceOf(3, 0, -1, 1, 0, 2, -1), true},
		{"heard, of one that is told later now", traceOf(3, 0, -1, 2, -1, 1, 0), traceOf(3, 2, -1, 0, -1, 1, 1), true},
		{"all of one process first", apart(2, 4), traceOf(2, 0, -1, 0, -1, 1, -1, 1, -1), true},
		{"both heard of each other, across", traceOf(2, 0, -1, 1, -1, 0, 1, 1, 0), traceOf(2, 1, -1, 0, -1, 1, 1, 0, 0), true},
		{"most apart, told process by process", apart(4, most), byProcess(4, most), true},

		{"a process more", traceOf(2, 0, -1, 1, 0), traceOf(3, 0, -1, 1, 0), false},
		{"an event more", traceOf(2, 0, -1, 1, 0), traceOf(2, 0, -1, 1, 0, 1, -1), false},
		{"an event more than none", traceOf(2), traceOf(2, 0, -1), false},
		{"an event fewer than most", row, passedOn(procs, most-1), false},
		{"an event elsewhere", traceOf(2, 0, -1), traceOf(2, 1, -1), false},
		{"an event elsewhere, beside others", traceOf(3, 0, -1, 1, -1, 2, -1), traceOf(3, 0, -1, 1, -1, 0, -1), false},
		{"processes that change places", traceOf(2, 0, -1, 1, 0), traceOf(2, 1, -1, 0, 0), false},
		{"the last elsewhere, of most", row, with(row, most-1, 4, most-2), false},

		{"heard, and heard of none", traceOf(2, 0, -1, 1, 0), traceOf(2, 0, -1, 1, -1), false},
		{"heard of one earlier", traceOf(2, 0, -1, 0, -1, 1, 1), traceOf(2, 0, -1, 0, -1, 1, 0), false},
		{"heard of one of another process", traceOf(3, 0, -1, 1, -1, 2, 0), traceOf(3, 0, -1, 1, -1, 2, 1), false},
		{"the other of two heard of it", traceOf(2, 0, -1, 1, 0, 1, -1), traceOf(2, 0, -1, 1, -1, 1, 0), false},
		{"heard in turn, and turned", traceOf(2, 0, -1, 0, -1, 1, 0, 1, 1), traceOf(2, 0, -1, 0, -1, 1, 1, 1, 0), false},
		{"the same number heard of, but another event", traceOf(3, 0, -1, 1, -1, 2, 0), traceOf(3, 1, -1, 0, -1, 2, 0), false},
		{"the same happened before, but not heard of the same", traceOf(2, 0, -1, 0, -1, 1, 1, 1, 0), traceOf(2, 0, -1, 0, -1, 1, 1, 1, -1), false},
		{"the last heard of none, of most", row, with(row, most-1, 3, -1), false},
		{"the last heard of another one, of most", row, with(row, most-1, 3, most-3), false},
	} {
		if got, err := trace.Same(c.t, c.u); err != nil || got != c.want {
			t.Errorf("%s: got %v, %v, want %v", c.name, got, err, c.want)
		}
		if got, err := trace.Same(c.u, c.t); err != nil || got != c.want {
			t.Errorf("%s, turned: got %v, %v, want %v", c.name, got, err, c.want)
		}
		for _, x := range []api.Trace{c.t, c.u} {
			if got, err := trace.Same(x, x); err != nil || !got {
				t.Errorf("%s, %v and itself: got %v, %v", c.name, x, got, err)
			}
		}
	}
}

// byProcess: as many events as apart has, but all of one process first.
func byProcess(procs, n int) api.Trace {
	t := apart(procs, n)
	slices.SortFunc(t.Events, func(a, b api.Event) int { return a.Proc - b.Proc })
	return t
}

// TestSameFaults holds 5.2: what Check tells of t is told first, then what it tells of u, and both ahead of whether they part.
func TestSameFaults(t *testing.T) {
	good := []api.Trace{traceOf(1), traceOf(2, 0, -1, 0, -1), apart(5, api.MaxEvents)}
	bad := map[api.Errno][]api.Trace{
		api.ErrRange: {traceOf(0), traceOf(6, 0, -1), traceOf(2, 2, -1), traceOf(2, 0, -2), traceOf(2, 0, 0), traceOf(2, 0, 1, 1, -1)},
		api.ErrFull:  {apart(2, api.MaxEvents+1), passedOn(5, 30)},
		api.ErrClash: {traceOf(2, 0, -1, 0, 0), traceOf(1, 0, -1, 0, 0, 0, 1)},
	}
	tell := func(x, y api.Trace, want api.Errno) {
		t.Helper()
		if got, err := trace.Same(x, y); plain.Told(err) != want || got {
			t.Errorf("%v and %v: got %v, %v, want %v", x, y, got, err, want)
		}
	}
	for want, of := range bad {
		for _, x := range of {
			for _, y := range good {
				tell(x, y, want)
				tell(y, x, want)
			}
			for _, others := range bad {
				for _, y := range others {
					tell(x, y, want)
				}
			}
		}
	}
}
