package hybrid_test

import (
	"errors"
	"fmt"
	"math"
	"slices"
	"testing"

	"whenstead/api"
	"whenstead/hybrid"
	"whenstead/plain"
)

// answer of one call: the stamps that it answers beside the error.
type answer struct {
	name   string
	stamps []api.Stamp
	err    error
}

// askAll calls everything that the chapter lists for a trace and times.
func askAll(t api.Trace, times []int) []answer {
	stamps, err := hybrid.Stamps(t, times)
	return []answer{{"Check", nil, hybrid.Check(t, times)}, {"Stamps", stamps, err}}
}

// textOf answers, by which they are held against each other.
func textOf(all []answer) string {
	s := ""
	for _, x := range all {
		s += fmt.Sprintln(x.name, x.stamps, plain.Told(x.err))
	}
	return s
}

// wildNumbers: such as may be, and such as may not.
func wildNumbers() []int {
	return []int{0, 1, 4, 5, 23, 24, 64, top, top + 1, -1, -2, -64, math.MinInt, math.MaxInt, 1 << 32}
}

// wildTraces: traces, and such that are none, of all kinds.
func wildTraces() []api.Trace {
	out := []api.Trace{{}, traceOf(1), traceOf(5), apart(1, 24), apart(5, 24), apart(5, 25), passedOn(5, 24), passedOn(2, 25), apart(1, 1000)}
	for _, x := range wildNumbers() {
		out = append(out, traceOf(x), traceOf(x, 0, -1), traceOf(x, 0, -1, 1, 0), api.Trace{Procs: x, Events: passedOn(5, 24).Events})
		for _, y := range wildNumbers() {
			out = append(out, traceOf(2, x, y), traceOf(5, 0, -1, 4, 0, x, y), with(apart(5, 24), 23, x, y), with(apart(3, 25), 24, x, y))
		}
	}
	return out
}

// wildTimes: lists of times for n events, and such that are none.
func wildTimes(n int) [][]int {
	out := [][]int{nil, {}, wildNumbers(), evenly(0, 0, 24), evenly(0, 0, 1000), evenly(5, 3, n), evenly(top, -1, n), evenly(7, 0, n+1)}
	for _, x := range wildNumbers() {
		out = append(out, evenly(x, 0, n), evenly(x, 1, n), []int{x}, []int{0, x, 5})
	}
	return out
}

// TestAnythingGoes holds P1: no call panics, and beside an error there is nothing; and P3: an error is a number that has a name, not OK.
func TestAnythingGoes(t *testing.T) {
	may := []api.Errno{api.ErrRange, api.ErrShape, api.ErrFull, api.ErrClash}
	for _, tr := range wildTraces() {
		for _, times := range wildTimes(len(tr.Events)) {
			for _, got := range askAll(tr, times) {
				if got.err == nil {
					continue
				}
				if got.stamps != nil || !slices.Contains(may, plain.Told(got.err)) {
					t.Fatalf("%s %v %v: %v beside %v", got.name, tr, times, got.err, got.stamps)
				}
			}
		}
	}
}

// TestNumbers holds P3: the errors that chapter 7 tells have the numbers that the document names.
func TestNumbers(t *testing.T) {
	var e api.Errno
	for _, c := range []struct {
		t     api.Trace
		times []int
		want  api.Errno
	}{{traceOf(6), nil, 1}, {apart(1, 25), nil, 4}, {traceOf(1, 0, -1, 0, 0), at(0, 0), 6}, {apart(1, 2), at(0), 3}, {apart(1, 1), at(-1), 1}} {
		for _, got := range askAll(c.t, c.times) {
			if !errors.As(got.err, &e) || e != c.want {
				t.Errorf("%s: got %v, want %v", got.name, got.err, c.want)
			}
		}
	}
}

// behind a list lies something that belongs to somebody else.
func behind[T any](l []T, junk ...T) (list, memory []T) {
	memory = append(slices.Clone(l), junk...)
	return memory[:len(l)], memory
}

// TestNothingWrittenInto holds P2: neither a list nor what lies behind it in memory is written into, also where a call fails.
func TestNothingWrittenInto(t *testing.T) {
	for _, tr := range wildTraces() {
		for _, l := range wildTimes(len(tr.Events)) {
			events, memory := behind(tr.Events, api.Event{Proc: 77, From: 78}, api.Event{Proc: 79})
			times, other := behind(l, 77, 78)
			askAll(api.Trace{Procs: tr.Procs, Events: events}, times)
			if !slices.Equal(memory[:len(events)], tr.Events) || memory[len(events)] != (api.Event{Proc: 77, From: 78}) || memory[len(events)+1] != (api.Event{Proc: 79}) {
				t.Fatalf("%v became %v", tr.Events, memory)
			}
			if !slices.Equal(other, append(slices.Clone(l), 77, 78)) {
				t.Fatalf("%v became %v", l, other)
			}
		}
	}
}

// TestAnswersAreFresh holds P2: who writes all over an answer writes into no other one, nor into what was handed in, and nothing comes out otherwise later.
func TestAnswersAreFresh(t *testing.T) {
	for _, c := range allWorkedOut() {
		var lists [][]api.Stamp
		for range 3 {
			got, err := hybrid.Stamps(c.t, c.times)
			if err != nil || !slices.Equal(got, c.stamps) {
				t.Fatalf("%s: got %v, %v, want %v", c.name, got, err, c.stamps)
			}
			lists = append(lists, got)
		}
		events, times := slices.Clone(c.t.Events), slices.Clone(c.times)
		for i, l := range lists {
			for j := range l[:cap(l)] {
				l[:cap(l)][j] = stampOf(-5, i)
			}
		}
		for i, l := range lists {
			for _, x := range l[:cap(l)] {
				if x != stampOf(-5, i) {
					t.Fatalf("%s: answer %d shares memory with answer %d", c.name, i, x.Count)
				}
			}
		}
		if !slices.Equal(events, c.t.Events) || !slices.Equal(times, c.times) {
			t.Errorf("%s: %v %v became %v %v", c.name, events, times, c.t.Events, c.times)
		}
		if got, err := hybrid.Stamps(c.t, c.times); err != nil || !slices.Equal(got, c.stamps) {
			t.Errorf("%s, later: got %v, %v, want %v", c.name, got, err, c.stamps)
		}
	}
}

// TestNothingKept holds P2: an answer stays as it is when a list changes later, and lists as they are at each call are asked.
func TestNothingKept(t *testing.T) {
	tr, times := traceOf(2, 1, -1, 0, 0, 1, -1), at(5, 3, 4)
	first := askAll(tr, times)
	want := textOf([]answer{{"Check", nil, nil}, {"Stamps", stamped(5, 0, 5, 1, 5, 1), nil}})
	changed := textOf([]answer{{"Check", nil, nil}, {"Stamps", stamped(2, 0, 3, 0, 4, 0), nil}})
	heard := textOf([]answer{{"Check", nil, nil}, {"Stamps", stamped(5, 0, 3, 0, 5, 1), nil}})
	for range 2 {
		if got := textOf(askAll(tr, times)); got != want {
			t.Errorf("got %s, want %s", got, want)
		}
		times[0] = 2
		if got := textOf(askAll(tr, times)); got != changed {
			t.Errorf("of the changed times: got %s, want %s", got, changed)
		}
		times[0], tr.Events[1].From, tr.Events[2].From = 5, -1, 1
		if got := textOf(askAll(tr, times)); got != heard {
			t.Errorf("of the changed trace: got %s, want %s", got, heard)
		}
		askAll(apart(1, 25), times)
		askAll(tr, at(top, top, top))
		askAll(tr, at(top, top, -1))
		tr.Events[1].From, tr.Events[2].From = 0, -1
	}
	tr.Events[0].Proc, times[1] = 0, 9
	if got := textOf(first); got != want {
		t.Errorf("the first answers became %s, were %s", got, want)
	}
}

// TestEmptyIsNil holds P4.
func TestEmptyIsNil(t *testing.T) {
	for _, events := range [][]api.Event{nil, {}, make([]api.Event, 0, 40), passedOn(5, 30).Events[:0]} {
		for _, times := range [][]int{nil, {}, make([]int, 0, 40), at(-1, -2)[:0]} {
			for _, got := range askAll(api.Trace{Procs: 2, Events: events}, times) {
				if got.err != nil || len(got.stamps) != 0 {
					t.Errorf("%s: got %v, %v", got.name, got.stamps, got.err)
				}
			}
		}
	}
}

// TestBehindTheLengthNotRead holds P4.
func TestBehindTheLengthNotRead(t *testing.T) {
	tr, three := traceOf(3, 0, -1, 1, 0, 0, 1), at(4, 2, 4)
	want := textOf(askAll(tr, three))
	for _, junk := range [][]api.Event{{{Proc: -1, From: -9}}, make([]api.Event, 40), apart(2, 5).Events} {
		events, _ := behind(tr.Events, junk...)
		for _, more := range [][]int{{-1}, {top + 1, 5}, make([]int, 40)} {
			times, _ := behind(three, more...)
			if got := textOf(askAll(api.Trace{Procs: 3, Events: events}, times)); got != want {
				t.Errorf("ahead of %v, %v: got %s, want %s", junk, more, got, want)
			}
		}
	}
	far, _ := behind([]api.Event{{Proc: 0, From: -1}, {Proc: 1, From: 2}}, api.Event{Proc: 0, From: -1})
	tells(t, "heard of one behind the length", api.Trace{Procs: 2, Events: far}, at(0, 0), api.ErrRange)
	tells(t, "as many times only behind the length", tr, three[:2], api.ErrShape)
	tells(t, "as many events only behind the length", api.Trace{Procs: 3, Events: tr.Events[:2]}, three, api.ErrShape)
}
