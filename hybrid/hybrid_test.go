package hybrid_test

import (
	"math"
	"slices"
	"testing"

	"whenstead/api"
	"whenstead/hybrid"
)

// top is the greatest time that may be.
const top = api.MaxTime

// traceOf processes: of each event where it is, and of which it heard.
func traceOf(procs int, told ...int) api.Trace {
	t := api.Trace{Procs: procs}
	for i := 0; i < len(told); i += 2 {
		t.Events = append(t.Events, api.Event{Proc: told[i], From: told[i+1]})
	}
	return t
}

// apart: n events, at one process after the other, none of which heard of another one.
func apart(procs, n int) api.Trace {
	t := api.Trace{Procs: procs}
	for i := range n {
		t.Events = append(t.Events, api.Event{Proc: i % procs, From: -1})
	}
	return t
}

// passedOn: n events, at one process after the other, each of which heard of the one ahead of it.
func passedOn(procs, n int) api.Trace {
	t := apart(procs, n)
	for i := range t.Events {
		t.Events[i].From = i - 1
	}
	return t
}

// with another event at a place.
func with(t api.Trace, i, proc, from int) api.Trace {
	t.Events = slices.Clone(t.Events)
	t.Events[i] = api.Event{Proc: proc, From: from}
	return t
}

// at times: just a list of them.
func at(times ...int) []int { return times }

// evenly: n times from the first one on, each by a step more than the one ahead.
func evenly(first, step, n int) []int {
	all := make([]int, n)
	for i := range all {
		all[i] = first + i*step
	}
	return all
}

// stamped: stamps, of each its time and its count.
func stamped(told ...int) []api.Stamp {
	var all []api.Stamp
	for i := 0; i < len(told); i += 2 {
		all = append(all, stampOf(told[i], told[i+1]))
	}
	return all
}

// stampOf a time and a count.
func stampOf(time, count int) api.Stamp { return api.Stamp{Time: time, Count: count} }

// worked is a trace with times, and what its stamps are, worked out by hand.
type worked struct {
	name   string
	t      api.Trace
	times  []int
	stamps []api.Stamp
}

// aloneWorkedOut: traces in which none heard of another one.
func aloneWorkedOut() []worked {
	one, two := apart(1, 3), apart(2, 4)
	return []worked{
		{"no events, one process", traceOf(1), nil, nil},
		{"no events, as many processes as may be", traceOf(5), nil, nil},
		{"one event, time 0", traceOf(1, 0, -1), at(0), stamped(0, 0)},
		{"one event, time 1", traceOf(1, 0, -1), at(1), stamped(1, 0)},
		{"one event, the greatest time", traceOf(1, 0, -1), at(top), stamped(top, 0)},
		{"one event at the last of most", traceOf(5, 4, -1), at(0), stamped(0, 0)},
		{"one process, times rise", one, at(1, 2, 3), stamped(1, 0, 2, 0, 3, 0)},
		{"one process, times fall", one, at(3, 2, 1), stamped(3, 0, 3, 1, 3, 2)},
		{"one process, times alike", one, at(5, 5, 5), stamped(5, 0, 5, 1, 5, 2)},
		{"one process, all 0", one, at(0, 0, 0), stamped(0, 0, 0, 1, 0, 2)},
		{"one process, all the greatest", one, at(top, top, top), stamped(top, 0, top, 1, top, 2)},
		{"one process, from 0 to the greatest", one, at(0, top, 0), stamped(0, 0, top, 0, top, 1)},
		{"one process, up by one to the greatest", one, at(top-1, top-1, top), stamped(top-1, 0, top-1, 1, top, 0)},
		{"one process, times fall and rise", apart(1, 6), at(4, 2, 7, 7, 1, 8), stamped(4, 0, 4, 1, 7, 0, 7, 1, 7, 2, 8, 0)},
		{"one process, back up to below the Time", apart(1, 5), at(9, 1, 8, 9, 10), stamped(9, 0, 9, 1, 9, 2, 9, 3, 10, 0)},
		{"two apart, each by its own times", two, at(5, 3, 4, 9), stamped(5, 0, 3, 0, 5, 1, 9, 0)},
		{"two apart, alike", two, at(6, 6, 6, 6), stamped(6, 0, 6, 0, 6, 1, 6, 1)},
		{"two apart, all 0", two, at(0, 0, 0, 0), stamped(0, 0, 0, 0, 0, 1, 0, 1)},
		{"two apart, told one by one", traceOf(2, 1, -1, 1, -1, 0, -1, 0, -1), at(8, 2, 2, 1), stamped(8, 0, 8, 1, 2, 0, 2, 1)},
		{"five apart, the last one first", traceOf(5, 4, -1, 3, -1, 2, -1, 1, -1, 0, -1), at(4, 3, 2, 1, 0), stamped(4, 0, 3, 0, 2, 0, 1, 0, 0, 0)},
	}
}

// heardWorkedOut: traces in which one heard of another one, with or without one ahead of it at its process.
func heardWorkedOut() []worked {
	first := traceOf(2, 0, -1, 1, 0)
	both := traceOf(2, 0, -1, 1, -1, 1, 0)
	longAhead := traceOf(2, 0, -1, 1, -1, 1, -1, 1, -1, 1, 0)
	longHeard := traceOf(2, 0, -1, 0, -1, 0, -1, 1, -1, 1, 2)
	return []worked{
		{"none ahead, own time above", first, at(5, 6), stamped(5, 0, 6, 0)},
		{"none ahead, own time the same", first, at(5, 5), stamped(5, 0, 5, 1)},
		{"none ahead, own time below", first, at(5, 4), stamped(5, 0, 5, 1)},
		{"none ahead, both 0", first, at(0, 0), stamped(0, 0, 0, 1)},
		{"none ahead, from the greatest to 0", first, at(top, 0), stamped(top, 0, top, 1)},
		{"none ahead, from 0 to the greatest", first, at(0, top), stamped(0, 0, top, 0)},
		{"none ahead, both the greatest", first, at(top, top), stamped(top, 0, top, 1)},

		{"own time above both", both, at(3, 4, 5), stamped(3, 0, 4, 0, 5, 0)},
		{"own time above both, turned", both, at(4, 3, 5), stamped(4, 0, 3, 0, 5, 0)},
		{"own time above both, which are the same", both, at(4, 4, 5), stamped(4, 0, 4, 0, 5, 0)},
		{"own time above both, which counted", longAhead, at(4, 4, 4, 4, 5), stamped(4, 0, 4, 0, 4, 1, 4, 2, 5, 0)},
		{"own time above both, of which the one heard of counted", longHeard, at(4, 4, 4, 4, 5), stamped(4, 0, 4, 1, 4, 2, 4, 0, 5, 0)},

		{"takes the one ahead", both, at(3, 4, 1), stamped(3, 0, 4, 0, 4, 1)},
		{"takes the one ahead, own time that of the one heard of", both, at(3, 4, 3), stamped(3, 0, 4, 0, 4, 1)},
		{"takes the one ahead, own time between", both, at(2, 6, 4), stamped(2, 0, 6, 0, 6, 1)},
		{"takes the one ahead, own time the same", both, at(3, 4, 4), stamped(3, 0, 4, 0, 4, 1)},
		{"takes the one ahead, the other one counted more", longHeard, at(3, 3, 3, 4, 0), stamped(3, 0, 3, 1, 3, 2, 4, 0, 4, 1)},
		{"takes the one ahead, which counted", longAhead, at(3, 4, 4, 4, 0), stamped(3, 0, 4, 0, 4, 1, 4, 2, 4, 3)},

		{"takes the one heard of", both, at(4, 3, 1), stamped(4, 0, 3, 0, 4, 1)},
		{"takes the one heard of, own time that of the one ahead", both, at(4, 3, 3), stamped(4, 0, 3, 0, 4, 1)},
		{"takes the one heard of, own time between", both, at(6, 2, 4), stamped(6, 0, 2, 0, 6, 1)},
		{"takes the one heard of, own time the same", both, at(4, 3, 4), stamped(4, 0, 3, 0, 4, 1)},
		{"takes the one heard of, the other one counted more", longAhead, at(4, 3, 3, 3, 0), stamped(4, 0, 3, 0, 3, 1, 3, 2, 4, 1)},
		{"takes the one heard of, which counted", longHeard, at(4, 4, 4, 3, 0), stamped(4, 0, 4, 1, 4, 2, 3, 0, 4, 3)},

		{"both have it, the same Count", both, at(4, 4, 1), stamped(4, 0, 4, 0, 4, 1)},
		{"both have it, the greater Count ahead", longAhead, at(4, 4, 4, 4, 0), stamped(4, 0, 4, 0, 4, 1, 4, 2, 4, 3)},
		{"both have it, the greater Count heard of", longHeard, at(4, 4, 4, 4, 0), stamped(4, 0, 4, 1, 4, 2, 4, 0, 4, 3)},
		{"both have it, and own time", both, at(4, 4, 4), stamped(4, 0, 4, 0, 4, 1)},
		{"both have it, and own time, the greater Count ahead", longAhead, evenly(7, 0, 5), stamped(7, 0, 7, 0, 7, 1, 7, 2, 7, 3)},
		{"both have it, and own time, the greater Count heard of", longHeard, evenly(7, 0, 5), stamped(7, 0, 7, 1, 7, 2, 7, 0, 7, 3)},
		{"both have it, all 0, the greater Count ahead", longAhead, evenly(0, 0, 5), stamped(0, 0, 0, 0, 0, 1, 0, 2, 0, 3)},
		{"both have the greatest, the greater Count heard of", longHeard, evenly(top, 0, 5), stamped(top, 0, top, 1, top, 2, top, 0, top, 3)},
	}
}

// farWorkedOut: traces in which what was heard is passed on.
func farWorkedOut() []worked {
	toAndFro := traceOf(2, 0, -1, 1, 0, 0, 1, 1, 2)
	across := traceOf(2, 1, -1, 0, -1, 1, 1, 0, 0)
	return []worked{
		{"over several, alike", passedOn(4, 4), at(7, 7, 7, 7), stamped(7, 0, 7, 1, 7, 2, 7, 3)},
		{"over several, the first one greatest", passedOn(3, 3), at(9, 1, 2), stamped(9, 0, 9, 1, 9, 2)},
		{"over several, one between greatest", passedOn(5, 5), at(3, 1, 8, 2, 7), stamped(3, 0, 3, 1, 8, 0, 8, 1, 8, 2)},
		{"heard, then goes on by itself", traceOf(2, 0, -1, 1, 0, 1, -1, 1, -1), at(9, 1, 8, 10), stamped(9, 0, 9, 1, 9, 2, 10, 0)},
		{"over one that heard earlier", traceOf(3, 0, -1, 1, 0, 1, -1, 2, 2), at(9, 0, 1, 9), stamped(9, 0, 9, 1, 9, 2, 9, 3)},
		{"over several, and back", traceOf(3, 0, -1, 1, 0, 2, 1, 0, 2), at(4, 6, 5, 5), stamped(4, 0, 6, 0, 6, 1, 6, 2)},
		{"to and fro, times fall", toAndFro, at(9, 8, 7, 6), stamped(9, 0, 9, 1, 9, 2, 9, 3)},
		{"to and fro, times rise", toAndFro, at(1, 2, 3, 4), stamped(1, 0, 2, 0, 3, 0, 4, 0)},
		{"to and fro, one clock goes fast", toAndFro, at(10, 1, 20, 2), stamped(10, 0, 10, 1, 20, 0, 20, 1)},
		{"across", across, at(5, 3, 0, 0), stamped(5, 0, 3, 0, 5, 1, 5, 1)},
		{"across, alike", across, at(5, 5, 5, 5), stamped(5, 0, 5, 0, 5, 1, 5, 1)},
		{"heard of the first of several", traceOf(2, 0, -1, 0, -1, 1, 0), at(2, 7, 1), stamped(2, 0, 7, 0, 2, 1)},
		{"heard of a later one first", traceOf(2, 0, -1, 0, -1, 1, 1, 1, 0), at(2, 7, 1, 1), stamped(2, 0, 7, 0, 7, 1, 7, 2)},
		{"two heard of one", traceOf(3, 1, -1, 2, 0, 0, 0), at(4, 1, 5), stamped(4, 0, 4, 1, 5, 0)},
		{"not what another one heard later", traceOf(3, 0, -1, 1, -1, 0, 1, 2, 0), at(1, 9, 2, 0), stamped(1, 0, 9, 0, 9, 1, 1, 1)},
		{"none ahead and none heard of, behind others", traceOf(3, 2, -1, 1, 0, 0, -1), at(0, 0, 0), stamped(0, 0, 0, 1, 0, 0)},
		{"a process without events between", traceOf(3, 2, -1, 0, 0, 2, 1), at(6, 6, 6), stamped(6, 0, 6, 1, 6, 2)},
	}
}

// mostWorkedOut: traces of as many events as may be.
func mostWorkedOut() []worked {
	const most, procs = api.MaxEvents, api.MaxProcs
	var counts, rise, fives, heard []api.Stamp
	for i := range most {
		counts = append(counts, stampOf(top, i))
		rise = append(rise, stampOf(top-most+1+i, 0))
		fives = append(fives, stampOf(0, i/procs))
		heard = append(heard, stampOf(i-i%2, i%2))
	}
	fall, up, downUp := evenly(top, -1, most), evenly(top-most+1, 1, most), evenly(0, 1, most)
	for i := 1; i < most; i += 2 {
		downUp[i] = 0
	}
	return []worked{
		{"one process, alike", apart(1, most), evenly(top, 0, most), counts},
		{"one process, times fall", apart(1, most), fall, counts},
		{"one process, times rise", apart(1, most), up, rise},
		{"most processes, apart, all 0", apart(procs, most), evenly(0, 0, most), fives},
		{"most processes, apart, times rise", apart(procs, most), up, rise},
		{"most processes, passed on, alike", passedOn(procs, most), evenly(top, 0, most), counts},
		{"most processes, passed on, times fall", passedOn(procs, most), fall, counts},
		{"most processes, passed on, times rise", passedOn(procs, most), up, rise},
		{"most processes, passed on, each other clock stands", passedOn(procs, most), downUp, heard},
	}
}

// allWorkedOut: all traces above.
func allWorkedOut() []worked {
	return slices.Concat(aloneWorkedOut(), heardWorkedOut(), farWorkedOut(), mostWorkedOut())
}

// TestStamps holds 7.2.
func TestStamps(t *testing.T) {
	for _, c := range allWorkedOut() {
		if got, err := hybrid.Stamps(c.t, c.times); err != nil || !slices.Equal(got, c.stamps) {
			t.Errorf("%s: got %v, %v, want %v", c.name, got, err, c.stamps)
		}
	}
}

// TestCheck holds 7.1, where nothing is wrong.
func TestCheck(t *testing.T) {
	for _, c := range allWorkedOut() {
		if err := hybrid.Check(c.t, c.times); err != nil {
			t.Errorf("%s: got %v", c.name, err)
		}
	}
}

// TestLess holds 7.1, both ways round; a stamp is never less than itself.
func TestLess(t *testing.T) {
	const least, greatest = math.MinInt, math.MaxInt
	for _, c := range []struct {
		name string
		a, b api.Stamp
		is   bool
	}{
		{"the same, 0", stampOf(0, 0), stampOf(0, 0), false},
		{"the same", stampOf(5, 3), stampOf(5, 3), false},
		{"by Time alone", stampOf(4, 3), stampOf(5, 3), true},
		{"by Time, Counts rise", stampOf(4, 3), stampOf(5, 4), true},
		{"by Time, Counts fall", stampOf(4, 3), stampOf(5, 2), true},
		{"by Time, by one, Counts fall by much", stampOf(top-1, 1000), stampOf(top, 0), true},
		{"by Time, by much", stampOf(0, 0), stampOf(top, 0), true},
		{"by Count", stampOf(5, 2), stampOf(5, 3), true},
		{"by Count, of Time 0", stampOf(0, 0), stampOf(0, 1), true},
		{"by Count, by much", stampOf(5, 0), stampOf(5, 1<<40), true},
		{"Time and Count change places", stampOf(1, 2), stampOf(2, 1), true},
		{"Times below 0", stampOf(-2, 0), stampOf(-1, 0), true},
		{"Times below 0, Counts fall", stampOf(-2, 9), stampOf(-1, -9), true},
		{"Times below 0 and above", stampOf(-1, 0), stampOf(1, 0), true},
		{"Counts below 0", stampOf(5, -2), stampOf(5, -1), true},
		{"Counts below 0 and 0", stampOf(5, -1), stampOf(5, 0), true},
		{"below 0, the same", stampOf(-7, -7), stampOf(-7, -7), false},
		{"greatest, the same", stampOf(greatest, greatest), stampOf(greatest, greatest), false},
		{"least, the same", stampOf(least, least), stampOf(least, least), false},
		{"least and greatest Time", stampOf(least, 0), stampOf(greatest, 0), true},
		{"least and greatest Time, Counts fall", stampOf(least, greatest), stampOf(greatest, least), true},
		{"least and greatest Count", stampOf(3, least), stampOf(3, greatest), true},
		{"least Time and 1", stampOf(least, 0), stampOf(1, 0), true},
		{"greatest Time and -1", stampOf(-1, 0), stampOf(greatest, 0), true},
		{"least Count and 1", stampOf(0, least), stampOf(0, 1), true},
		{"greatest Count and -1", stampOf(0, -1), stampOf(0, greatest), true},
		{"greatest Time and one less", stampOf(greatest-1, greatest), stampOf(greatest, least), true},
		{"greatest Count and one less", stampOf(greatest, greatest-1), stampOf(greatest, greatest), true},
		{"least Time and one more", stampOf(least, greatest), stampOf(least+1, least), true},
		{"least Count and one more", stampOf(least, least), stampOf(least, least+1), true},
	} {
		if got := hybrid.Less(c.a, c.b); got != c.is {
			t.Errorf("%s: got %v", c.name, got)
		}
		if hybrid.Less(c.b, c.a) || hybrid.Less(c.a, c.a) || hybrid.Less(c.b, c.b) {
			t.Errorf("%s: it is less the other way round, or than itself", c.name)
		}
	}
}
