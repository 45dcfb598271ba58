package table_test

import (
	"slices"
	"testing"

	"whenstead/api"
	"whenstead/plain"
	"whenstead/table"
	"whenstead/trace"
)

// past of a table: all steps that were done, by which everything is worked out anew.
type past struct {
	procs int
	steps []step
	met   map[[3]int]int // what latest told already
}

// pastOf a table at which nothing was done yet.
func pastOf(procs int) *past { return &past{procs, nil, map[[3]int]int{}} }

// latest step up to which somebody knows what another one did, when so many steps were done.
func (p *past) latest(who, of, time int) int {
	if who == of {
		return time
	}
	if time == 0 {
		return 0
	}
	key := [3]int{who, of, time}
	if at, is := p.met[key]; is {
		return at
	}
	at := p.latest(who, of, time-1)
	if s := p.steps[time-1]; !s.write && s.to == who {
		at = max(at, p.latest(s.from, of, time))
	}
	p.met[key] = at
	return at
}

// written by a process, when so many steps were done.
func (p *past) written(writer, time int) int {
	many := 0
	for _, s := range p.steps[:time] {
		if s == write(writer) {
			many++
		}
	}
	return many
}

// knows: what somebody knows that another one knows is what that one knew when it last heard of it.
func (p *past) knows(who, of, writer int) int {
	then := p.latest(who, of, len(p.steps))
	return p.written(writer, p.latest(of, writer, then))
}

// wrong tells what chapter 10 says first is wrong with a step.
func (p *past) wrong(s step) api.Errno {
	there := func(q int) bool { return 0 <= q && q < p.procs }
	switch {
	case !there(s.from), !s.write && !there(s.to):
		return api.ErrRange
	case s.write && p.written(s.from, len(p.steps)) == 60:
		return api.ErrFull
	case !s.write && s.from == s.to:
		return api.ErrClash
	}
	return api.OK
}

// both do a step, at a table and at its past.
func both(t *testing.T, x *table.Table, p *past, s step) api.Errno {
	t.Helper()
	want := p.wrong(s)
	if err := s.do(x); plain.Told(err) != want {
		t.Fatalf("%d processes, behind %v: %v: got %v, want %v", p.procs, p.steps, s, err, want)
	}
	if want == api.OK {
		p.steps = append(p.steps, s)
	}
	return want
}

// hold a table against its past.
func hold(t *testing.T, x *table.Table, p *past) {
	t.Helper()
	for who := range p.procs {
		for writer := range p.procs {
			least := 60
			for of := range p.procs {
				want := p.knows(who, of, writer)
				least = min(least, want)
				if got := x.Knows(who, of, writer); got != want {
					t.Fatalf("%d processes, behind %v: %d knows that %d knows of %d of %d, want %d", p.procs, p.steps, who, of, got, writer, want)
				}
			}
			if got := x.Stable(who, writer); got != least {
				t.Fatalf("%d processes, behind %v: of %d %d are stable to %d, want %d", p.procs, p.steps, writer, got, who, least)
			}
		}
	}
}

// holdTruth: what one knows of another one is so, it knows it itself, and nobody knows of more than was written.
func holdTruth(t *testing.T, x *table.Table, p *past) {
	t.Helper()
	for writer := range p.procs {
		all := p.written(writer, len(p.steps))
		if got := x.Knows(writer, writer, writer); got != all {
			t.Fatalf("behind %v: %d wrote %d times, and knows of %d", p.steps, writer, all, got)
		}
		for who := range p.procs {
			for of := range p.procs {
				got := x.Knows(who, of, writer)
				if got < 0 || got > x.Knows(of, of, writer) || got > x.Knows(who, who, writer) || got > all {
					t.Fatalf("behind %v: %d cannot know that %d knows of %d of %d", p.steps, who, of, got, writer)
				}
				if least := x.Stable(who, writer); least > got || least > x.Knows(of, of, writer) {
					t.Fatalf("behind %v: of %d %d cannot be stable to %d", p.steps, writer, least, who)
				}
			}
		}
	}
}

// numbers that a table knows, by who, of whom, and writer.
type numbers [5][5][5]int

// numbersOf a table.
func numbersOf(x *table.Table) (all numbers) {
	for who := range 5 {
		for of := range 5 {
			for writer := range 5 {
				all[who][of][writer] = x.Knows(who, of, writer)
			}
		}
	}
	return all
}

// holdStep: what a step that is done changes is what chapter 10 says, word for word, and nothing else.
func holdStep(t *testing.T, procs int, s step, before, after numbers) {
	t.Helper()
	want := before
	for writer := range procs {
		if s.write {
			continue
		}
		self := max(before[s.to][s.to][writer], before[s.from][s.from][writer])
		for of := range procs {
			want[s.to][of][writer] = max(before[s.to][of][writer], before[s.from][of][writer])
		}
		want[s.to][s.to][writer] = self
	}
	if s.write {
		want[s.from][s.from][s.from]++
	}
	if after != want {
		t.Fatalf("%d processes: %v made %v of %v, want %v", procs, s, after, before, want)
	}
	for who := range procs {
		for of := range procs {
			for writer := range procs {
				if after[who][of][writer] < before[who][of][writer] {
					t.Fatalf("%v: %d forgot what it knew of %d and %d", s, who, of, writer)
				}
			}
		}
	}
}

// play a row of steps at a new table and at its past, and hold each step.
func play(t *testing.T, procs int, row []step) (*table.Table, *past) {
	t.Helper()
	x, p := tableOf(t, procs), pastOf(procs)
	for _, s := range row {
		before := numbersOf(x)
		if both(t, x, p, s) == api.OK {
			holdStep(t, procs, s, before, numbersOf(x))
		} else if numbersOf(x) != before {
			t.Fatalf("%v was refused, and changed %v", s, before)
		}
	}
	return x, p
}

// everyStep of so many processes and, if asked for, the next ones.
func everyStep(procs, next int) []step {
	var all []step
	for from := -next; from < procs+next; from++ {
		all = append(all, write(from))
		for to := -next; to < procs+next; to++ {
			if next > 0 || from != to {
				all = append(all, tell(from, to))
			}
		}
	}
	return all
}

// everyRow of so many steps, and fewer.
func everyRow(t *testing.T, procs, many int, steps, row []step) {
	x, p := play(t, procs, row)
	hold(t, x, p)
	holdTruth(t, x, p)
	if many == 0 {
		return
	}
	for _, s := range steps {
		everyRow(t, procs, many-1, steps, append(slices.Clip(row), s))
	}
}

// TestEveryRow holds 10.1 at all short rows of steps, with all that may be wrong with them, and at longer ones with which nothing is wrong.
func TestEveryRow(t *testing.T) {
	everyRow(t, 1, 3, everyStep(1, 1), nil)
	everyRow(t, 2, 3, everyStep(2, 1), nil)
	everyRow(t, 3, 2, everyStep(3, 1), nil)
	everyRow(t, 1, 9, everyStep(1, 0), nil)
	everyRow(t, 2, 7, everyStep(2, 0), nil)
	everyRow(t, 3, 4, everyStep(3, 0), nil)
	everyRow(t, 4, 3, everyStep(4, 0), nil)
	everyRow(t, 5, 2, everyStep(5, 0), nil)
}

// traceOf a row that is done, by chapter 5: a write is an event, and so are that one tells, and that another one is told; with the events that are writes.
func traceOf(procs int, row []step) (tr api.Trace, writes []int) {
	tr.Procs = procs
	for _, s := range row {
		if s.write {
			writes = append(writes, len(tr.Events))
		}
		tr.Events = append(tr.Events, api.Event{Proc: s.from, From: -1})
		if !s.write {
			tr.Events = append(tr.Events, api.Event{Proc: s.to, From: len(tr.Events) - 1})
		}
	}
	return tr, writes
}

// lastIn a set of events that is at a process; -1, if none is.
func lastIn(tr api.Trace, s, proc int) int {
	for i := len(tr.Events) - 1; i >= 0; i-- {
		if s>>i&1 == 1 && tr.Events[i].Proc == proc {
			return i
		}
	}
	return -1
}

// holdTrace: who knows of a write just if it happened before, and knows what another one knows by that one's last event that did.
func holdTrace(t *testing.T, x *table.Table, procs int, row []step) {
	t.Helper()
	tr, writes := traceOf(procs, row)
	before, err := trace.Before(tr)
	if err != nil {
		t.Fatalf("%v: %v", tr, err)
	}
	with := func(e int) int {
		if e < 0 {
			return 0
		}
		return before[e] | 1<<e
	}
	for who := range procs {
		mine := with(lastIn(tr, 1<<len(tr.Events)-1, who))
		for of := range procs {
			known := with(lastIn(tr, mine, of))
			for writer := range procs {
				want := 0
				for _, w := range writes {
					if tr.Events[w].Proc == writer {
						want += known >> w & 1
					}
				}
				if got := x.Knows(who, of, writer); got != want {
					t.Fatalf("%d processes, behind %v: %d knows that %d knows of %d of %d, by chapter 5 %d", procs, row, who, of, got, writer, want)
				}
			}
		}
	}
}

// everyTrace of rows of so many steps, and fewer.
func everyTrace(t *testing.T, procs, many int, steps, row []step) {
	x := tableOf(t, procs)
	done(t, x, row...)
	holdTrace(t, x, procs, row)
	for _, s := range steps {
		if many > 0 {
			everyTrace(t, procs, many-1, steps, append(slices.Clip(row), s))
		}
	}
}

// TestEveryTrace holds 10.1 against chapter 5, at all short rows.
func TestEveryTrace(t *testing.T) {
	everyTrace(t, 1, 9, everyStep(1, 0), nil)
	everyTrace(t, 2, 7, everyStep(2, 0), nil)
	everyTrace(t, 3, 4, everyStep(3, 0), nil)
	everyTrace(t, 4, 3, everyStep(4, 0), nil)
	everyTrace(t, 5, 2, everyStep(5, 0), nil)
}
