package stamp_test

import (
	"errors"
	"fmt"
	"math"
	"slices"
	"testing"

	"whenstead/api"
	"whenstead/plain"
	"whenstead/stamp"
)

// answer of one call: lists and is are what it answers beside the error.
type answer struct {
	name  string
	is    bool
	lists [][]int
	err   error
}

// askTrace calls everything that the chapter lists for a trace.
func askTrace(t api.Trace) []answer {
	clocks, err1 := stamp.Plain(t)
	vectors, err2 := stamp.Vectors(t)
	row, err3 := stamp.Row(t)
	return []answer{
		{"Plain", false, one(clocks), err1},
		{"Vectors", false, vectors, err2},
		{"Row", false, one(row), err3},
	}
}

// one list as a list of lists; of nil nil.
func one(l []int) [][]int {
	if l == nil {
		return nil
	}
	return [][]int{l}
}

// askAll calls everything that the chapter lists.
func askAll(t api.Trace, v, w []int) []answer {
	is, err := stamp.Below(v, w)
	return append(askTrace(t), answer{"Below", is, nil, err})
}

// textOf answers, by which they are held against each other.
func textOf(all []answer) string {
	s := ""
	for _, x := range all {
		s += fmt.Sprintln(x.name, x.is, x.lists, plain.Told(x.err))
	}
	return s
}

// wildNumbers: such as may be, and such as may not.
func wildNumbers() []int {
	return []int{0, 1, 4, 5, 23, 24, 64, -1, -2, -64, math.MinInt, math.MaxInt, 1 << 32}
}

// wildTraces: traces, and such that are none, of all kinds.
func wildTraces() []api.Trace {
	out := []api.Trace{{}, traceOf(1), traceOf(5), apart(1, 24), apart(5, 24), apart(5, 25), passedOn(5, 24), passedOn(2, 25), apart(1, 1000)}
	for _, x := range wildNumbers() {
		out = append(out, traceOf(x), traceOf(x, 0, -1), traceOf(x, 0, -1, 1, 0), api.Trace{Procs: x, Events: passedOn(5, 24).Events})
		for _, y := range wildNumbers() {
			out = append(out, traceOf(2, x, y), traceOf(5, 0, -1, 4, 0, x, y), with(apart(5, 24), 23, x, y), with(apart(3, 25), 24, x, y))
		}
	}
	return out
}

// wildLists of numbers, of several lengths.
func wildLists() [][]int {
	out := [][]int{nil, {}, wildNumbers(), make([]int, 13), make([]int, 1000)}
	for _, x := range wildNumbers() {
		out = append(out, []int{x}, []int{x, 0}, []int{0, x, -x})
	}
	return out
}

// TestAnythingGoes holds P1: no call panics, and beside an error there is nothing; and P3: an error is a number that has a name, not OK.
func TestAnythingGoes(t *testing.T) {
	may := map[string][]api.Errno{"Below": {api.ErrShape}}
	for _, name := range []string{"Plain", "Vectors", "Row"} {
		may[name] = []api.Errno{api.ErrRange, api.ErrFull, api.ErrClash}
	}
	var all []answer
	for _, tr := range wildTraces() {
		all = append(all, askTrace(tr)...)
	}
	for _, v := range wildLists() {
		for _, w := range wildLists() {
			all = append(all, askAll(api.Trace{}, v, w)...)
		}
	}
	for _, got := range all {
		if got.err == nil {
			continue
		}
		if got.is || got.lists != nil {
			t.Fatalf("%s: %v beside %v, %v", got.name, got.err, got.is, got.lists)
		}
		if !slices.Contains(may[got.name], plain.Told(got.err)) {
			t.Fatalf("%s: error %v", got.name, got.err)
		}
	}
}

// TestNumbers holds P3: the errors that chapter 6 tells have the numbers that the document names.
func TestNumbers(t *testing.T) {
	var e api.Errno
	if _, err := stamp.Below([]int{1}, nil); !errors.As(err, &e) || e != 3 {
		t.Errorf("Below: got %v", err)
	}
	for _, c := range []struct {
		t    api.Trace
		want api.Errno
	}{{traceOf(6), 1}, {apart(1, 25), 4}, {traceOf(1, 0, -1, 0, 0), 6}} {
		for _, got := range askTrace(c.t) {
			if !errors.As(got.err, &e) || e != c.want {
				t.Errorf("%s: got %v, want %v", got.name, got.err, c.want)
			}
		}
	}
}

// behind a list lies something that belongs to somebody else.
func behind[T any](l []T, junk ...T) (list, memory []T) {
	memory = append(slices.Clone(l), junk...)
	return memory[:len(l)], memory
}

// TestNothingWrittenInto holds P2: neither a list nor what lies behind it in memory is written into, also where a call fails.
func TestNothingWrittenInto(t *testing.T) {
	for _, tr := range wildTraces() {
		events, memory := behind(tr.Events, api.Event{Proc: 77, From: 78}, api.Event{Proc: 79})
		before := slices.Clone(memory)
		askTrace(api.Trace{Procs: tr.Procs, Events: events})
		if !slices.Equal(memory, before) {
			t.Fatalf("%v became %v", before, memory)
		}
	}
	for _, a := range wildLists() {
		for _, b := range wildLists() {
			v, memory := behind(a, 77, 78)
			w, other := behind(b, 87, 88)
			stamp.Below(v, w)
			stamp.Below(v, v)
			if !slices.Equal(memory, append(slices.Clone(a), 77, 78)) || !slices.Equal(other, append(slices.Clone(b), 87, 88)) {
				t.Fatalf("%v and %v became %v and %v", a, b, memory, other)
			}
		}
	}
}

// TestAnswersAreFresh holds P2: who writes all over a list of an answer writes into no other list, and nothing comes out otherwise later.
func TestAnswersAreFresh(t *testing.T) {
	for _, tr := range []api.Trace{traceOf(1), traceOf(2, 0, -1), apart(1, 24), apart(2, 5), apart(5, 24), passedOn(3, 7), passedOn(5, 24)} {
		first := textOf(askTrace(tr))
		var lists [][]int
		for _, got := range append(askTrace(tr), askTrace(tr)...) {
			lists = append(lists, got.lists...)
		}
		for i, l := range lists {
			fill(l, 100+i)
		}
		for i, l := range lists {
			for _, x := range l[:cap(l)] {
				if x != 100+i {
					t.Fatalf("%v: list %d shares memory with list %d", tr, i, x-100)
				}
			}
		}
		if again := textOf(askTrace(tr)); again != first {
			t.Errorf("%v: first %s, then %s", tr, first, again)
		}
	}
}

// TestRowsAreFresh holds P2: nor do the lists of rows that Vectors answers share memory.
func TestRowsAreFresh(t *testing.T) {
	tr := passedOn(5, 24)
	a, err1 := stamp.Vectors(tr)
	b, err2 := stamp.Vectors(tr)
	if err1 != nil || err2 != nil {
		t.Fatal(err1, err2)
	}
	clear(a[:cap(a)])
	if !same(b, wantVectors(tr)) {
		t.Errorf("got %v, want %v", b, wantVectors(tr))
	}
}

// fill a list, and what lies behind it, with one number.
func fill(l []int, x int) {
	l = l[:cap(l)]
	for i := range l {
		l[i] = x
	}
}

// TestNothingKept holds P2: an answer stays as it is when a list changes later, and lists as they are at each call are asked.
func TestNothingKept(t *testing.T) {
	tr, v, w := traceOf(2, 1, -1, 0, 0, 1, -1), []int{1, 2}, []int{1, 3}
	first := askAll(tr, v, w)
	want := textOf([]answer{{"Plain", false, [][]int{{1, 2, 2}}, nil}, {"Vectors", false, [][]int{{0, 1}, {1, 1}, {0, 2}}, nil}, {"Row", false, [][]int{{0, 1, 2}}, nil}, {"Below", true, nil, nil}})
	changed := textOf([]answer{{"Plain", false, [][]int{{1, 1, 2}}, nil}, {"Vectors", false, [][]int{{0, 1}, {1, 0}, {1, 2}}, nil}, {"Row", false, [][]int{{1, 0, 2}}, nil}, {"Below", false, nil, nil}})
	for range 2 {
		if got := textOf(askAll(tr, v, w)); got != want {
			t.Errorf("got %s, want %s", got, want)
		}
		tr.Events[1].From, tr.Events[2].From, v[0] = -1, 1, 2
		if got := textOf(askAll(tr, v, w)); got != changed {
			t.Errorf("of the changed lists: got %s, want %s", got, changed)
		}
		askAll(apart(1, 25), v, nil)
		tr.Events[1].From, tr.Events[2].From, v[0] = 0, -1, 1
	}
	tr.Events[0].Proc, v[1] = 0, 9
	if got := textOf(first); got != want {
		t.Errorf("the first answers became %s, were %s", got, want)
	}
}

// TestSharedMemory: two lists may lie in the same memory, the one a place behind the other.
func TestSharedMemory(t *testing.T) {
	for _, c := range []struct {
		l          []int
		is, turned bool
	}{{[]int{1, 2, 3}, true, false}, {[]int{2, 2, 2}, false, false}, {[]int{3, 2, 1}, false, true}, {[]int{1, 3, 2}, false, false}} {
		is, err1 := stamp.Below(c.l[:2], c.l[1:])
		turned, err2 := stamp.Below(c.l[1:], c.l[:2])
		if err1 != nil || err2 != nil || is != c.is || turned != c.turned {
			t.Errorf("%v: got %v, %v; %v, %v", c.l, is, turned, err1, err2)
		}
	}
}

// TestEmptyIsNil holds P4.
func TestEmptyIsNil(t *testing.T) {
	for _, empty := range [][]api.Event{nil, {}, make([]api.Event, 0, 40), passedOn(5, 30).Events[:0]} {
		for _, got := range askTrace(api.Trace{Procs: 2, Events: empty}) {
			if n := len(slices.Concat(got.lists...)); got.err != nil || n != 0 {
				t.Errorf("%s: got %v, %v", got.name, got.lists, got.err)
			}
		}
	}
	for _, v := range [][]int{nil, {}, {1, 2, 3}} {
		for _, w := range [][]int{nil, {}, {4, 5, 6}} {
			if got, err := stamp.Below(v[:0], w[:0]); err != nil || got {
				t.Errorf("Below of none: got %v, %v", got, err)
			}
		}
	}
}

// TestBehindTheLengthNotRead holds P4.
func TestBehindTheLengthNotRead(t *testing.T) {
	tr := traceOf(3, 0, -1, 1, 0, 0, 1)
	want := textOf(askTrace(tr))
	for _, junk := range [][]api.Event{{{Proc: -1, From: -9}}, make([]api.Event, 40), apart(2, 5).Events} {
		events, _ := behind(tr.Events, junk...)
		if got := textOf(askTrace(api.Trace{Procs: 3, Events: events})); got != want {
			t.Errorf("before %v: got %s, want %s", junk, got, want)
		}
	}
	far, _ := behind([]api.Event{{Proc: 0, From: -1}, {Proc: 1, From: 2}}, api.Event{Proc: 0, From: -1})
	tells(t, "heard of one behind the length", api.Trace{Procs: 2, Events: far}, api.ErrRange)

	v, _ := behind([]int{1, 2}, 0)
	w, _ := behind([]int{1, 2}, 9)
	if got, err := stamp.Below(v, w); err != nil || got {
		t.Errorf("parted behind the length: got %v, %v", got, err)
	}
	if got, err := stamp.Below(v, []int{1, 2, 3}); plain.Told(err) != api.ErrShape || got {
		t.Errorf("as many only behind the length: got %v, %v", got, err)
	}
}
