package cut_test

import (
	"errors"
	"fmt"
	"math"
	"slices"
	"testing"

	"whenstead/api"
	"whenstead/cut"
	"whenstead/plain"
)

// answer of one call: what it answers beside the error.
type answer struct {
	name   string
	number int
	is     bool
	line   []int
	err    error
}

// askAll calls everything that the chapter lists for a trace and a cut.
func askAll(t api.Trace, c []int) []answer {
	events, err1 := cut.Events(t, c)
	is, err2 := cut.Is(t, c)
	line, err3 := cut.Line(t, c)
	count, err4 := cut.Count(t)
	return []answer{
		{name: "Events", number: events, err: err1},
		{name: "Is", is: is, err: err2},
		{name: "Line", line: line, err: err3},
		{name: "Count", number: count, err: err4},
	}
}

// answersOf a cut in which nothing is wrong.
func answersOf(events int, is bool, line []int, count int) []answer {
	return []answer{{name: "Events", number: events}, {name: "Is", is: is}, {name: "Line", line: line}, {name: "Count", number: count}}
}

// textOf answers, by which they are held against each other.
func textOf(all []answer) string {
	s := ""
	for _, x := range all {
		s += fmt.Sprintln(x.name, x.number, x.is, x.line, plain.Told(x.err))
	}
	return s
}

// wildNumbers: such as may be, and such as may not.
func wildNumbers() []int {
	return []int{0, 1, 4, 5, 23, 24, 25, 64, -1, -2, -64, math.MinInt, math.MaxInt, 1 << 32}
}

// wildTraces: traces, and such that are none, of all kinds.
func wildTraces() []api.Trace {
	out := []api.Trace{{}, traceOf(1), traceOf(5), apart(1, 24), apart(5, 24), apart(5, 25), passedOn(5, 24), passedOn(2, 25), apart(1, 1000)}
	for _, x := range wildNumbers() {
		out = append(out, traceOf(x), traceOf(x, 0, -1), traceOf(x, 0, -1, 1, 0), api.Trace{Procs: x, Events: passedOn(5, 24).Events})
		for _, y := range wildNumbers() {
			out = append(out, traceOf(2, x, y), traceOf(5, 0, -1, 4, 0, x, y), with(passedOn(5, 24), 23, x, y), with(apart(3, 25), 24, x, y))
		}
	}
	return out
}

// wildCuts: lists of numbers for n processes, and such that are none.
func wildCuts(n int) [][]int {
	n = min(max(n, 0), 6)
	out := [][]int{nil, {}, wildNumbers(), alike(0, 1000), alike(1, n+1), {1, 0}, {0, 0, 0, 0, 1}, {5, 5, 5, 5, 4}, {5, 4, 5, 0, 4}}
	for _, x := range wildNumbers() {
		out = append(out, alike(x, n), []int{x}, []int{0, x}, []int{1, 0, x, 1, 0})
	}
	return out
}

// TestAnythingGoes holds P1: no call panics, and beside an error there is nothing; and P3: an error is a number that has a name, not OK.
func TestAnythingGoes(t *testing.T) {
	may := []api.Errno{api.ErrRange, api.ErrShape, api.ErrFull, api.ErrClash}
	for _, tr := range wildTraces() {
		for _, c := range wildCuts(tr.Procs) {
			for _, got := range askAll(tr, c) {
				if got.err == nil {
					continue
				}
				if got.number != 0 || got.is || got.line != nil || !slices.Contains(may, plain.Told(got.err)) {
					t.Fatalf("%s %v %v: beside %v: %v", got.name, tr, c, got.err, got)
				}
			}
		}
	}
}

// TestNumbers holds P3: the errors that chapter 8 tells have the numbers that the document names.
func TestNumbers(t *testing.T) {
	var e api.Errno
	for _, x := range []struct {
		t    api.Trace
		c    []int
		want []api.Errno
	}{
		{traceOf(6), nil, []api.Errno{1, 1, 1, 1}},
		{apart(1, 25), nil, []api.Errno{4, 4, 4, 4}},
		{traceOf(1, 0, -1, 0, 0), at(0), []api.Errno{6, 6, 6, 6}},
		{apart(2, 2), at(0), []api.Errno{3, 3, 3, 0}},
		{apart(1, 1), at(-1), []api.Errno{1, 1, 1, 0}},
	} {
		for i, got := range askAll(x.t, x.c) {
			if x.want[i] == 0 && got.err != nil || x.want[i] != 0 && (!errors.As(got.err, &e) || e != x.want[i]) {
				t.Errorf("%s %v %v: got %v, want %v", got.name, x.t, x.c, got.err, x.want[i])
			}
		}
	}
}

// behind a list lies something that belongs to somebody else.
func behind[T any](l []T, junk ...T) (list, memory []T) {
	memory = append(slices.Clone(l), junk...)
	return memory[:len(l)], memory
}

// TestNothingWrittenInto holds P2: neither a list nor what lies behind it in memory is written into, also where a call fails.
func TestNothingWrittenInto(t *testing.T) {
	for _, tr := range wildTraces() {
		for _, l := range wildCuts(tr.Procs) {
			events, memory := behind(tr.Events, api.Event{Proc: 77, From: 78}, api.Event{Proc: 79})
			c, other := behind(l, 77, 78)
			askAll(api.Trace{Procs: tr.Procs, Events: events}, c)
			if !slices.Equal(memory[:len(events)], tr.Events) || memory[len(events)] != (api.Event{Proc: 77, From: 78}) || memory[len(events)+1] != (api.Event{Proc: 79}) {
				t.Fatalf("%v became %v", tr.Events, memory)
			}
			if !slices.Equal(other, append(slices.Clone(l), 77, 78)) {
				t.Fatalf("%v became %v", l, other)
			}
		}
	}
}

// TestAnswersAreFresh holds P2: who writes all over a line writes into no other one, nor into what was handed in, and nothing comes out otherwise later.
func TestAnswersAreFresh(t *testing.T) {
	for _, w := range allWorkedOut() {
		for _, x := range w.cuts {
			events, c := slices.Clone(w.t.Events), slices.Clone(x.c)
			want := textOf(answersOf(x.events, slices.Equal(x.c, x.line), slices.Clone(x.line), w.count))
			var lines [][]int
			for range 3 {
				got, err := cut.Line(w.t, c)
				if err != nil {
					t.Fatal(w.name, err)
				}
				lines = append(lines, got[:cap(got)])
			}
			for i, l := range lines {
				for j := range l {
					l[j] = -5 - i
				}
			}
			for i, l := range lines {
				if !slices.Equal(l, alike(-5-i, len(l))) {
					t.Fatalf("%s: answer %d became %v", w.name, i, l)
				}
			}
			if !slices.Equal(events, w.t.Events) || !slices.Equal(c, x.c) {
				t.Errorf("%s: %v %v became %v %v", w.name, events, x.c, w.t.Events, c)
			}
			if got := textOf(askAll(w.t, c)); got != want {
				t.Errorf("%s, later: got %s, want %s", w.name, got, want)
			}
		}
	}
}

// TestNothingKept holds P2: an answer stays as it is when a list changes later, and lists as they are at each call are asked.
func TestNothingKept(t *testing.T) {
	tr, c := traceOf(2, 0, -1, 1, 0, 1, -1), at(1, 2)
	first := askAll(tr, c)
	want := textOf(answersOf(7, true, at(1, 2), 4))
	changed := textOf(answersOf(6, false, at(0, 0), 4))
	apart := textOf(answersOf(6, true, at(0, 2), 6))
	for range 2 {
		if got := textOf(askAll(tr, c)); got != want {
			t.Errorf("got %s, want %s", got, want)
		}
		c[0] = 0
		if got := textOf(askAll(tr, c)); got != changed {
			t.Errorf("of the changed cut: got %s, want %s", got, changed)
		}
		tr.Events[1].From = -1
		if got := textOf(askAll(tr, c)); got != apart {
			t.Errorf("of the changed trace: got %s, want %s", got, apart)
		}
		askAll(passedOn(1, 25), c)
		askAll(tr, at(1, 2, 3))
		askAll(tr, at(2, 2))
		c[0], tr.Events[1].From = 1, 0
	}
	tr.Events[0].Proc, c[1] = 1, 0
	if got := textOf(first); got != want {
		t.Errorf("the first answers became %s, were %s", got, want)
	}
}

// TestEmptyIsNil holds P4.
func TestEmptyIsNil(t *testing.T) {
	want := textOf(answersOf(0, true, at(0, 0), 1))
	for _, events := range [][]api.Event{nil, {}, make([]api.Event, 0, 40), passedOn(5, 30).Events[:0]} {
		tr := api.Trace{Procs: 2, Events: events}
		if got := textOf(askAll(tr, at(0, 0))); got != want {
			t.Errorf("got %s, want %s", got, want)
		}
		for _, c := range [][]int{nil, {}, make([]int, 0, 40), at(0, 0)[:0]} {
			tells(t, "no numbers", tr, c, api.ErrShape)
		}
	}
}

// TestBehindTheLengthNotRead holds P4.
func TestBehindTheLengthNotRead(t *testing.T) {
	tr, two := traceOf(2, 0, -1, 1, 0, 1, -1), at(1, 1)
	want := textOf(answersOf(3, true, two, 4))
	for _, junk := range [][]api.Event{{{Proc: -1, From: -9}}, make([]api.Event, 40), apart(2, 5).Events} {
		events, _ := behind(tr.Events, junk...)
		for _, more := range [][]int{{-1}, {25, 5}, make([]int, 40)} {
			c, _ := behind(two, more...)
			if got := textOf(askAll(api.Trace{Procs: 2, Events: events}, c)); got != want {
				t.Errorf("ahead of %v, %v: got %s, want %s", junk, more, got, want)
			}
		}
	}
	far, _ := behind([]api.Event{{Proc: 0, From: -1}, {Proc: 1, From: 2}}, api.Event{Proc: 0, From: -1})
	tells(t, "heard of one behind the length", api.Trace{Procs: 2, Events: far}, two, api.ErrRange)
	tells(t, "as many numbers only behind the length", tr, two[:1], api.ErrShape)
	tells(t, "as many events only behind the length", api.Trace{Procs: 2, Events: tr.Events[:1]}, two, api.ErrRange)
}
