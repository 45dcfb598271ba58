package stamp_test

import (
	"math"
	"slices"
	"testing"

	"whenstead/api"
	"whenstead/plain"
	"whenstead/stamp"
)

// traceOf processes: of each event where it is, and of which it heard.
func traceOf(procs int, told ...int) api.Trace {
	t := api.Trace{Procs: procs}
	for i := 0; i < len(told); i += 2 {
		t.Events = append(t.Events, api.Event{Proc: told[i], From: told[i+1]})
	}
	return t
}

// apart: n events, at one process after the other, none of which heard of another one.
func apart(procs, n int) api.Trace {
	t := api.Trace{Procs: procs}
	for i := range n {
		t.Events = append(t.Events, api.Event{Proc: i % procs, From: -1})
	}
	return t
}

// passedOn: n events, at one process after the other, each of which heard of the one ahead of it.
func passedOn(procs, n int) api.Trace {
	t := apart(procs, n)
	for i := range t.Events {
		t.Events[i].From = i - 1
	}
	return t
}

// with another event at a place.
func with(t api.Trace, i, proc, from int) api.Trace {
	t.Events = slices.Clone(t.Events)
	t.Events[i] = api.Event{Proc: proc, From: from}
	return t
}

// upTo: n numbers from the first one on, each one more.
func upTo(first, n int) []int {
	all := make([]int, n)
	for i := range all {
		all[i] = first + i
	}
	return all
}

// same tells whether two lists of rows have the same numbers.
func same(a, b [][]int) bool { return slices.EqualFunc(a, b, slices.Equal[[]int]) }

// worked is a trace, and what its clocks are, worked out by hand.
type worked struct {
	name    string
	t       api.Trace
	plain   []int
	vectors [][]int
	row     []int
}

// workedOut: traces of all kinds, but for those with very many events.
func workedOut() []worked {
	return []worked{
		{"no events, one process", traceOf(1), nil, nil, nil},
		{"no events, as many processes as may be", traceOf(5), nil, nil, nil},
		{"one event, one process", traceOf(1, 0, -1), []int{1}, [][]int{{1}}, []int{0}},
		{"one event, others without any", traceOf(3, 1, -1), []int{1}, [][]int{{0, 1, 0}}, []int{0}},
		{"one event at the last of most", traceOf(5, 4, -1), []int{1}, [][]int{{0, 0, 0, 0, 1}}, []int{0}},
		{"one process alone", apart(1, 3), []int{1, 2, 3}, [][]int{{1}, {2}, {3}}, []int{0, 1, 2}},
		{"two apart", apart(2, 4), []int{1, 1, 2, 2}, [][]int{{1, 0}, {0, 1}, {2, 0}, {0, 2}}, []int{0, 1, 2, 3}},
		{"two apart, told one by one", traceOf(2, 1, -1, 1, -1, 0, -1, 0, -1), []int{1, 2, 1, 2}, [][]int{{0, 1}, {0, 2}, {1, 0}, {2, 0}}, []int{2, 0, 3, 1}},
		{"one clock, told in the other order", traceOf(5, 4, -1, 3, -1, 2, -1, 1, -1, 0, -1), []int{1, 1, 1, 1, 1},
			[][]int{{0, 0, 0, 0, 1}, {0, 0, 0, 1, 0}, {0, 0, 1, 0, 0}, {0, 1, 0, 0, 0}, {1, 0, 0, 0, 0}}, []int{4, 3, 2, 1, 0}},
		{"one clock, told neither way", traceOf(3, 1, -1, 2, -1, 0, -1), []int{1, 1, 1}, [][]int{{0, 1, 0}, {0, 0, 1}, {1, 0, 0}}, []int{2, 0, 1}},
		{"a later clock is told first", traceOf(2, 0, -1, 0, -1, 0, -1, 1, -1), []int{1, 2, 3, 1}, [][]int{{1, 0}, {2, 0}, {3, 0}, {0, 1}}, []int{0, 3, 1, 2}},
		{"a lesser clock at a greater process", traceOf(2, 1, -1, 0, 0), []int{1, 2}, [][]int{{0, 1}, {1, 1}}, []int{0, 1}},
		{"both heard, and the greater clock at the lesser process is told first", traceOf(3, 1, -1, 0, 0, 0, -1, 2, 0), []int{1, 2, 3, 2},
			[][]int{{0, 1, 0}, {1, 1, 0}, {2, 1, 0}, {0, 1, 1}}, []int{0, 1, 3, 2}},

		{"heard of one", traceOf(2, 0, -1, 1, 0), []int{1, 2}, [][]int{{1, 0}, {1, 1}}, []int{0, 1}},
		{"its own process is further", traceOf(2, 0, -1, 1, -1, 1, -1, 1, -1, 1, 0), []int{1, 1, 2, 3, 4},
			[][]int{{1, 0}, {0, 1}, {0, 2}, {0, 3}, {1, 4}}, []int{0, 1, 2, 3, 4}},
		{"the one of which it heard is further", traceOf(2, 0, -1, 0, -1, 0, -1, 1, -1, 1, 2), []int{1, 2, 3, 1, 4},
			[][]int{{1, 0}, {2, 0}, {3, 0}, {0, 1}, {3, 2}}, []int{0, 3, 1, 2, 4}},
		{"both are as far", traceOf(2, 0, -1, 1, -1, 0, -1, 1, -1, 1, 2), []int{1, 1, 2, 2, 3}, [][]int{{1, 0}, {0, 1}, {2, 0}, {0, 2}, {2, 3}}, []int{0, 1, 2, 3, 4}},
		{"heard of one further, then goes on", traceOf(2, 0, -1, 0, -1, 1, 1, 1, -1), []int{1, 2, 3, 4}, [][]int{{1, 0}, {2, 0}, {2, 1}, {2, 2}}, []int{0, 1, 2, 3}},
		{"heard of the first of several", traceOf(2, 0, -1, 0, -1, 0, -1, 1, 0), []int{1, 2, 3, 2}, [][]int{{1, 0}, {2, 0}, {3, 0}, {1, 1}}, []int{0, 1, 3, 2}},
		{"heard of a later one first", traceOf(2, 0, -1, 0, -1, 1, 1, 1, 0), []int{1, 2, 3, 4}, [][]int{{1, 0}, {2, 0}, {2, 1}, {2, 2}}, []int{0, 1, 2, 3}},
		{"two heard of one", traceOf(3, 1, -1, 2, 0, 0, 0), []int{1, 2, 2}, [][]int{{0, 1, 0}, {0, 1, 1}, {1, 1, 0}}, []int{0, 2, 1}},

		{"over several, by one each", passedOn(4, 4), []int{1, 2, 3, 4}, [][]int{{1, 0, 0, 0}, {1, 1, 0, 0}, {1, 1, 1, 0}, {1, 1, 1, 1}}, []int{0, 1, 2, 3}},
		{"over one that was heard of earlier", traceOf(3, 0, -1, 1, 0, 1, -1, 2, 2), []int{1, 2, 3, 4},
			[][]int{{1, 0, 0}, {1, 1, 0}, {1, 2, 0}, {1, 2, 1}}, []int{0, 1, 2, 3}},
		{"not what another one heard later", traceOf(3, 0, -1, 1, -1, 0, 1, 2, 0), []int{1, 1, 2, 2}, [][]int{{1, 0, 0}, {0, 1, 0}, {2, 1, 0}, {1, 0, 1}}, []int{0, 1, 2, 3}},
		{"to and fro", traceOf(2, 0, -1, 1, 0, 0, 1, 1, 2), []int{1, 2, 3, 4}, [][]int{{1, 0}, {1, 1}, {2, 1}, {2, 2}}, []int{0, 1, 2, 3}},
		{"both heard of each other, across", traceOf(2, 1, -1, 0, -1, 1, 1, 0, 0), []int{1, 1, 2, 2}, [][]int{{0, 1}, {1, 0}, {1, 2}, {2, 1}}, []int{1, 0, 3, 2}},
		{"each of two knows more at one place", traceOf(3, 0, -1, 0, -1, 1, -1, 1, -1, 2, 1, 2, 3), []int{1, 2, 1, 2, 3, 4},
			[][]int{{1, 0, 0}, {2, 0, 0}, {0, 1, 0}, {0, 2, 0}, {2, 0, 1}, {2, 2, 2}}, []int{0, 2, 1, 3, 4, 5}},
		{"a process without events between", traceOf(3, 2, -1, 0, 0, 2, 1), []int{1, 2, 3}, [][]int{{0, 0, 1}, {1, 0, 1}, {1, 0, 2}}, []int{0, 1, 2}},
		{"the first process without events", traceOf(2, 1, -1, 1, -1), []int{1, 2}, [][]int{{0, 1}, {0, 2}}, []int{0, 1}},
		{"all but two without events", traceOf(5, 3, -1, 1, 0), []int{1, 2}, [][]int{{0, 0, 0, 1, 0}, {0, 1, 0, 1, 0}}, []int{0, 1}},
	}
}

// mostWorkedOut: traces of as many events as may be.
func mostWorkedOut() []worked {
	const most, procs = api.MaxEvents, api.MaxProcs
	one := worked{"one process, most events", apart(1, most), upTo(1, most), nil, upTo(0, most)}
	wide := worked{"most processes and events, apart", apart(procs, most), nil, nil, upTo(0, most)}
	row := worked{"most processes and events, passed on", passedOn(procs, most), upTo(1, most), nil, upTo(0, most)}
	told := make([]int, procs) // how many events of each process there are up to this one
	for i := range most {
		told[i%procs]++
		one.vectors = append(one.vectors, []int{i + 1})
		wide.plain = append(wide.plain, i/procs+1)
		alone := make([]int, procs)
		alone[i%procs] = i/procs + 1
		wide.vectors = append(wide.vectors, alone)
		row.vectors = append(row.vectors, slices.Clone(told))
	}
	return []worked{one, wide, row}
}

// TestPlain holds 6.1.
func TestPlain(t *testing.T) {
	for _, c := range append(workedOut(), mostWorkedOut()...) {
		if got, err := stamp.Plain(c.t); err != nil || !slices.Equal(got, c.plain) {
			t.Errorf("%s: got %v, %v, want %v", c.name, got, err, c.plain)
		}
	}
}

// TestVectors holds 6.1.
func TestVectors(t *testing.T) {
	for _, c := range append(workedOut(), mostWorkedOut()...) {
		if got, err := stamp.Vectors(c.t); err != nil || !same(got, c.vectors) {
			t.Errorf("%s: got %v, %v, want %v", c.name, got, err, c.vectors)
		}
	}
}

// TestRow holds 6.1.
func TestRow(t *testing.T) {
	for _, c := range append(workedOut(), mostWorkedOut()...) {
		if got, err := stamp.Row(c.t); err != nil || !slices.Equal(got, c.row) {
			t.Errorf("%s: got %v, %v, want %v", c.name, got, err, c.row)
		}
	}
}

// TestRowTurned: as many events as may be, of each process at one clock, told from the last process on.
func TestRowTurned(t *testing.T) {
	const most, procs = api.MaxEvents, api.MaxProcs
	tr := api.Trace{Procs: procs}
	for i := range most {
		tr.Events = append(tr.Events, api.Event{Proc: procs - 1 - i%procs, From: -1})
	}
	want := []int{4, 3, 2, 1, 0, 9, 8, 7, 6, 5, 14, 13, 12, 11, 10, 19, 18, 17, 16, 15, 23, 22, 21, 20}
	if got, err := stamp.Row(tr); err != nil || !slices.Equal(got, want) {
		t.Errorf("got %v, %v, want %v", got, err, want)
	}
}

// TestBelow holds 6.1, both ways round.
func TestBelow(t *testing.T) {
	const least, greatest = math.MinInt, math.MaxInt
	long := make([]int, 1000)
	last := slices.Clone(long)
	last[999] = 1
	both := slices.Clone(last)
	both[0] = -1
	for _, c := range []struct {
		name       string
		v, w       []int
		is, turned bool
	}{
		{"no numbers", nil, nil, false, false},
		{"no numbers, empty and nil", []int{}, nil, false, false},
		{"the same, one", []int{3}, []int{3}, false, false},
		{"the same, several", []int{1, 0, 2}, []int{1, 0, 2}, false, false},
		{"one, parted", []int{1}, []int{2}, true, false},
		{"parted at the first place", []int{1, 5, 5}, []int{2, 5, 5}, true, false},
		{"parted at a place between", []int{5, 1, 5}, []int{5, 2, 5}, true, false},
		{"parted at the last place", []int{5, 5, 1}, []int{5, 5, 2}, true, false},
		{"parted by much", []int{5, 5}, []int{5, 1 << 40}, true, false},
		{"below at several", []int{1, 5, 1}, []int{2, 5, 9}, true, false},
		{"below at all", []int{0, 0, 0}, []int{1, 2, 3}, true, false},
		{"each is below at one place", []int{1, 2}, []int{2, 1}, false, false},
		{"each is below at one place, others the same", []int{0, 1, 0, 2, 0}, []int{0, 2, 0, 1, 0}, false, false},
		{"below at the first alone", []int{0, 9, 9, 9}, []int{1, 8, 8, 8}, false, false},
		{"below at the last alone", []int{9, 9, 9, 0}, []int{8, 8, 8, 1}, false, false},
		{"above at one between", []int{0, 5, 0}, []int{1, 4, 1}, false, false},
		{"numbers below 0", []int{-2, -1}, []int{-1, -1}, true, false},
		{"below 0 and above", []int{-1, 0}, []int{0, 0}, true, false},
		{"below 0, each way", []int{-2, -1}, []int{-1, -2}, false, false},
		{"below 0, the same", []int{-7, -7}, []int{-7, -7}, false, false},
		{"the greatest, the same", []int{greatest, least}, []int{greatest, least}, false, false},
		{"the greatest, and one less", []int{greatest - 1}, []int{greatest}, true, false},
		{"the least, and one more", []int{least}, []int{least + 1}, true, false},
		{"the least and the greatest", []int{least}, []int{greatest}, true, false},
		{"the least and 1", []int{least, 0}, []int{1, 0}, true, false},
		{"the greatest and -1", []int{-1, 0}, []int{greatest, 0}, true, false},
		{"the least and the greatest, each way", []int{least, greatest}, []int{greatest, least}, false, false},
		{"many, the same", long, slices.Clone(long), false, false},
		{"many, parted at the last", long, last, true, false},
		{"many, parted at the first and the last", long, both, false, false},
	} {
		if got, err := stamp.Below(c.v, c.w); err != nil || got != c.is {
			t.Errorf("%s: got %v, %v, want %v", c.name, got, err, c.is)
		}
		if got, err := stamp.Below(c.w, c.v); err != nil || got != c.turned {
			t.Errorf("%s, turned: got %v, %v, want %v", c.name, got, err, c.turned)
		}
		for _, x := range [][]int{c.v, c.w} {
			if got, err := stamp.Below(x, x); err != nil || got {
				t.Errorf("%s, %v and itself: got %v, %v", c.name, x, got, err)
			}
		}
	}
}

// TestBelowShape holds 6.1: lists that have not as many numbers, both ways round, whatever the numbers are.
func TestBelowShape(t *testing.T) {
	for _, c := range []struct {
		name string
		v, w []int
	}{
		{"none and one", nil, []int{0}},
		{"one and two, the same as far as it goes", []int{0}, []int{0, 0}},
		{"below as far as it goes", []int{0, 0}, []int{1, 1, 1}},
		{"above as far as it goes", []int{2, 2}, []int{1, 1, 1}},
		{"above at the first place", []int{2, 0}, []int{1, 1, 1}},
		{"many more", make([]int, 5), make([]int, 1000)},
	} {
		for _, pair := range [][2][]int{{c.v, c.w}, {c.w, c.v}} {
			if got, err := stamp.Below(pair[0], pair[1]); plain.Told(err) != api.ErrShape || got {
				t.Errorf("%s: got %v, %v", c.name, got, err)
			}
		}
	}
}

// TestFaults holds 6.1: Plain, Vectors and Row tell what chapter 5's Check tells, and answer nothing beside it.
func TestFaults(t *testing.T) {
	const most, procs = api.MaxEvents, api.MaxProcs
	many := with(apart(1, most+1), 1, 0, 0)
	none := many
	none.Procs = 0
	for _, c := range []struct {
		name string
		t    api.Trace
		want api.Errno
	}{
		{"no process", traceOf(0), api.ErrRange},
		{"processes below 0", traceOf(-1), api.ErrRange},
		{"a process more than may be", traceOf(procs+1, procs, -1), api.ErrRange},
		{"least number of processes", traceOf(math.MinInt), api.ErrRange},
		{"greatest number of processes", traceOf(math.MaxInt, 0, -1), api.ErrRange},
		{"an event more than may be, apart", apart(procs, most+1), api.ErrFull},
		{"an event more than may be, passed on", passedOn(procs, most+1), api.ErrFull},
		{"many more events", apart(2, 1<<20), api.ErrFull},
		{"Proc below 0", traceOf(2, 0, -1, -1, -1), api.ErrRange},
		{"Proc is the next process", traceOf(2, 2, -1), api.ErrRange},
		{"Proc is the next process of most", with(apart(procs, most), most-1, procs, -1), api.ErrRange},
		{"From below -1", traceOf(2, 0, -1, 1, -2), api.ErrRange},
		{"heard of itself", traceOf(2, 0, 0), api.ErrRange},
		{"heard of one told behind it", traceOf(2, 0, 1, 1, -1), api.ErrRange},
		{"heard of one behind all", traceOf(2, 0, -1, 1, 2), api.ErrRange},
		{"heard of one at its process", traceOf(2, 0, -1, 0, 0), api.ErrClash},
		{"heard at one process alone", traceOf(1, 0, -1, 0, 0), api.ErrClash},
		{"heard of one at its process, the last of most", with(apart(procs, most), most-1, 3, 3), api.ErrClash},

		{"no process, too many events, a clash", none, api.ErrRange},
		{"too many events, a clash", many, api.ErrFull},
		{"clash, then no process", traceOf(2, 0, -1, 0, 0, 2, -1), api.ErrClash},
		{"no process, then clash", traceOf(2, 0, -1, 2, -1, 0, 0), api.ErrRange},
	} {
		tells(t, c.name, c.t, c.want)
	}
}

// tells: all three calls on a trace tell an error, and answer nothing beside it.
func tells(t *testing.T, name string, tr api.Trace, want api.Errno) {
	t.Helper()
	if got, err := stamp.Plain(tr); plain.Told(err) != want || got != nil {
		t.Errorf("%s: Plain: got %v, %v, want %v", name, got, err, want)
	}
	if got, err := stamp.Vectors(tr); plain.Told(err) != want || got != nil {
		t.Errorf("%s: Vectors: got %v, %v, want %v", name, got, err, want)
	}
	if got, err := stamp.Row(tr); plain.Told(err) != want || got != nil {
		t.Errorf("%s: Row: got %v, %v, want %v", name, got, err, want)
	}
}
