package trace_test

import (
	"errors"
	"fmt"
	"math"
	"slices"
	"testing"

	"whenstead/api"
	"whenstead/plain"
	"whenstead/trace"
)

// answer of one call: is and list are what it answers beside the error.
type answer struct {
	name string
	is   bool
	list []int
	err  error
}

// askAll calls everything that the chapter lists.
func askAll(t, u api.Trace, proc int) []answer {
	before, err1 := trace.Before(t)
	of, err2 := trace.Of(t, proc)
	is, err3 := trace.Same(t, u)
	return []answer{
		{"Check", false, nil, trace.Check(t)},
		{"Before", false, before, err1},
		{"Of", false, of, err2},
		{"Same", is, nil, err3},
	}
}

// textOf answers, by which they are held against each other; an empty list is as nil.
func textOf(all []answer) string {
	s := ""
	for _, x := range all {
		s += fmt.Sprintln(x.name, x.is, x.list, plain.Told(x.err))
	}
	return s
}

// wildNumbers: such as may be, and such as may not.
func wildNumbers() []int {
	return []int{0, 1, 4, 5, 23, 24, 64, -1, -2, -64, math.MinInt, math.MaxInt, 1 << 32}
}

// wildTraces: traces, and such that are none, of all kinds.
func wildTraces() []api.Trace {
	out := []api.Trace{{}, traceOf(1), traceOf(5), apart(1, 24), apart(5, 24), apart(5, 25), passedOn(5, 24), passedOn(2, 25), apart(1, 1000)}
	for _, x := range wildNumbers() {
		out = append(out, traceOf(x), traceOf(x, 0, -1), traceOf(x, 0, -1, 1, 0), api.Trace{Procs: x, Events: passedOn(5, 24).Events})
		for _, y := range wildNumbers() {
			out = append(out, traceOf(2, x, y), traceOf(5, 0, -1, 4, 0, x, y), with(apart(5, 24), 23, x, y), with(apart(3, 25), 24, x, y))
		}
	}
	return out
}

// TestAnythingGoes holds P1: no call panics, and beside an error there is nothing; and P3: an error is a number that has a name, not OK.
func TestAnythingGoes(t *testing.T) {
	all := wildTraces()
	for i, tr := range all {
		u := all[len(all)-1-i]
		for _, proc := range wildNumbers() {
			for _, got := range askAll(tr, u, proc) {
				if got.err == nil {
					continue
				}
				if got.is || got.list != nil {
					t.Fatalf("%s %v %v %d: %v beside %v, %v", got.name, tr, u, proc, got.err, got.is, got.list)
				}
				if e := plain.Told(got.err); e != api.ErrFull && e != api.ErrRange && e != api.ErrClash {
					t.Fatalf("%s %v %v %d: error %v", got.name, tr, u, proc, got.err)
				}
			}
		}
	}
}

// TestNumbers holds P3: the errors and the bounds that chapter 5 names have the numbers that it names.
func TestNumbers(t *testing.T) {
	if api.MaxProcs != 5 || api.MaxEvents != 24 {
		t.Errorf("MaxProcs is %d, MaxEvents %d", api.MaxProcs, api.MaxEvents)
	}
	for _, c := range []struct {
		t    api.Trace
		want api.Errno
	}{{traceOf(6), 1}, {apart(1, 25), 4}, {traceOf(1, 0, -1, 0, 0), 6}} {
		for _, got := range askAll(c.t, c.t, 0) {
			var e api.Errno
			if !errors.As(got.err, &e) || e != c.want {
				t.Errorf("%s: got %v, want %v", got.name, got.err, c.want)
			}
		}
	}
}

// behind a list lie some events that belong to somebody else.
func behind(t api.Trace, junk ...api.Event) (api.Trace, []api.Event) {
	memory := append(slices.Clone(t.Events), junk...)
	t.Events = memory[:len(t.Events)]
	return t, memory
}

// TestNothingWrittenInto holds P2: neither the events nor what lies behind them in memory is written into, also where a call fails.
func TestNothingWrittenInto(t *testing.T) {
	for _, given := range wildTraces() {
		tr, memory := behind(given, api.Event{Proc: 77, From: 78}, api.Event{Proc: 79})
		u, other := behind(apart(2, 4), api.Event{Proc: 87, From: 88}, api.Event{Proc: 89})
		before, otherBefore := slices.Clone(memory), slices.Clone(other)
		for _, proc := range []int{-1, 0, 1, 4, 5} {
			askAll(tr, u, proc)
			askAll(u, tr, proc)
			askAll(tr, tr, proc)
		}
		if !slices.Equal(memory, before) || !slices.Equal(other, otherBefore) {
			t.Fatalf("%v became %v, or %v became %v", before, memory, otherBefore, other)
		}
	}
}

// TestAnswersAreFresh holds P2: who writes all over an answer writes into no other one, and nothing comes out otherwise later.
func TestAnswersAreFresh(t *testing.T) {
	for _, tr := range []api.Trace{traceOf(1), traceOf(2, 0, -1), apart(1, 24), apart(2, 5), passedOn(5, 24)} {
		first := textOf(askAll(tr, tr, 0))
		twice := append(askAll(tr, tr, 0), askAll(tr, tr, 0)...)
		for i, got := range twice {
			fill(got.list, 100+i)
		}
		for i, got := range twice {
			for _, x := range got.list {
				if x != 100+i {
					t.Errorf("%s of %v shares memory with another answer", got.name, tr)
				}
			}
		}
		if again := textOf(askAll(tr, tr, 0)); again != first {
			t.Errorf("%v: first %s, then %s", tr, first, again)
		}
	}
}

// fill a list, and what lies behind it, with one number.
func fill(l []int, x int) {
	l = l[:cap(l)]
	for i := range l {
		l[i] = x
	}
}

// TestNothingKept holds P2: an answer stays as it is when the events change later, and the events as they are at each call are asked.
func TestNothingKept(t *testing.T) {
	tr, u := traceOf(2, 0, -1, 1, 0, 1, -1), traceOf(2, 0, -1, 1, 0, 1, -1)
	first := askAll(tr, u, 1)
	want := textOf([]answer{{"Check", false, nil, nil}, {"Before", false, []int{0, 1, 3}, nil}, {"Of", false, []int{1, 2}, nil}, {"Same", true, nil, nil}})
	changed := textOf([]answer{{"Check", false, nil, nil}, {"Before", false, []int{0, 1, 1}, nil}, {"Of", false, []int{2}, nil}, {"Same", false, nil, nil}})
	for range 2 {
		if got := textOf(askAll(tr, u, 1)); got != want {
			t.Errorf("got %s, want %s", got, want)
		}
		tr.Events[1] = api.Event{Proc: 0, From: -1}
		tr.Events[2] = api.Event{Proc: 1, From: 0}
		if got := textOf(askAll(tr, u, 1)); got != changed {
			t.Errorf("of the changed events: got %s, want %s", got, changed)
		}
		askAll(apart(1, 25), u, 1)
		tr.Events[1] = api.Event{Proc: 1, From: 0}
		tr.Events[2] = api.Event{Proc: 1, From: -1}
	}
	if got := textOf(first); got != want {
		t.Errorf("the first answers became %s, were %s", got, want)
	}
}

// TestSharedMemory: two traces may lie in the same memory, the one as long as the other, or shorter.
func TestSharedMemory(t *testing.T) {
	tr := passedOn(3, 6)
	for n := range 7 {
		u := api.Trace{Procs: 3, Events: tr.Events[:n]}
		if got, err := trace.Same(tr, u); err != nil || got != (n == 6) {
			t.Errorf("with its first %d: got %v, %v", n, got, err)
		}
	}
}

// TestEmptyIsNil holds P4.
func TestEmptyIsNil(t *testing.T) {
	want := textOf(askAll(traceOf(2), traceOf(2), 0))
	for _, empty := range [][]api.Event{{}, make([]api.Event, 0, 40), passedOn(5, 30).Events[:0]} {
		tr := api.Trace{Procs: 2, Events: empty}
		for _, pair := range [][2]api.Trace{{tr, tr}, {tr, traceOf(2)}, {traceOf(2), tr}} {
			if got := textOf(askAll(pair[0], pair[1], 0)); got != want {
				t.Errorf("got %s, of nil %s", got, want)
			}
		}
	}
}

// TestBehindTheLengthNotRead holds P4.
func TestBehindTheLengthNotRead(t *testing.T) {
	tr := traceOf(2, 0, -1, 1, 0, 0, 1)
	for proc := -1; proc <= 2; proc++ {
		want := textOf(askAll(tr, tr, proc))
		for _, junk := range [][]api.Event{{{Proc: -1, From: -9}}, make([]api.Event, 40), apart(2, 5).Events} {
			u, _ := behind(tr, junk...)
			for _, pair := range [][2]api.Trace{{u, u}, {u, tr}, {tr, u}} {
				if got := textOf(askAll(pair[0], pair[1], proc)); got != want {
					t.Errorf("%d, before %v: got %s, want %s", proc, junk, got, want)
				}
			}
		}
	}
	far := traceOf(2, 0, -1, 1, 2) // what it heard of lies behind the length
	u, _ := behind(far, api.Event{Proc: 0, From: -1})
	tells(t, "heard of one behind the length", u, api.ErrRange)
}
