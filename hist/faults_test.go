package hist_test

import (
	"fmt"
	"math"
	"slices"
	"testing"

	"whenstead/api"
	"whenstead/hist"
	"whenstead/plain"
)

// tells: Check, Atomic and Weak tell an error, and answer nothing beside it.
func tells(t *testing.T, name string, h []api.Op, want api.Errno) {
	t.Helper()
	if err := hist.Check(h); plain.Told(err) != want {
		t.Errorf("%s: Check: got %v, want %v", name, err, want)
	}
	if is, got, err := hist.Atomic(h); plain.Told(err) != want || is || got != nil {
		t.Errorf("%s: Atomic: got %v, %v, %v, want %v", name, is, got, err, want)
	}
	if is, got, err := hist.Weak(h); plain.Told(err) != want || is || got != nil {
		t.Errorf("%s: Weak: got %v, %v, %v, want %v", name, is, got, err, want)
	}
}

// apart: n ops with which nothing is wrong, each when the one ahead was over a while.
func apart(n int) []api.Op {
	h := make([]api.Op, n)
	for i := range h {
		h[i] = write(i%api.MaxProcs, i%api.MaxObjects, i, 10*i+3, 10*i+7)
	}
	return h
}

// with another op at a place.
func with(h []api.Op, i int, op api.Op) []api.Op {
	h = slices.Clone(h)
	h[i] = op
	return h
}

// badOps: such of which one number is none that may be; all else of them is as it was.
func badOps(op api.Op) map[string]api.Op {
	all := map[string]api.Op{}
	put := func(name string, least, most int, set func(op *api.Op, x int)) {
		for _, x := range []int{least - 1, least - 2, -most, -most - 1, -1 << 32, math.MinInt, math.MinInt + 1, most + 1, most + 2, 1<<32 + least, 1 << 62, math.MaxInt} {
			if x >= least && x <= most {
				continue
			}
			bad := op
			set(&bad, x)
			all[fmt.Sprint(name, " ", x)] = bad
		}
	}
	put("Proc", 0, 4, func(op *api.Op, x int) { op.Proc = x })
	put("Object", 0, 2, func(op *api.Op, x int) { op.Object = x })
	put("Write", 0, 1, func(op *api.Op, x int) { op.Write = x })
	put("Value", 0, 1_000_000, func(op *api.Op, x int) { op.Value = x })
	put("From", 0, 1_000_000, func(op *api.Op, x int) { op.From = x })
	put("To", 0, 1_000_000, func(op *api.Op, x int) { op.To = x })
	return all
}

// TestRange holds 12.1: each number of an op, below and above what may be, at each place of histories of all lengths.
func TestRange(t *testing.T) {
	for n := 1; n <= api.MaxOps; n++ {
		for i := range n {
			h := apart(n)
			for name, op := range badOps(h[i]) {
				tells(t, fmt.Sprintf("op %d of %d has %s", i, n, name), with(h, i, op), api.ErrRange)
			}
			for name, op := range badOps(read(4, 2, 0, 500, 501)) {
				tells(t, fmt.Sprintf("op %d of %d reads, and has %s", i, n, name), with(h, i, op), api.ErrRange)
			}
		}
	}
}

// TestMayBe holds 12.1: the least and the greatest of each number may be.
func TestMayBe(t *testing.T) {
	for proc := range 5 {
		for object := range 3 {
			for _, times := range [][2]int{{0, 1}, {0, 1_000_000}, {999_999, 1_000_000}, {1, 999_999}} {
				for _, value := range []int{0, 1, 999_999, 1_000_000} {
					wrote := write(proc, object, value, times[0], times[1])
					saw := read(proc, object, value, times[0], times[1])
					for _, h := range [][]api.Op{{wrote}, {saw}, {wrote, read((proc+1)%5, object, value, 0, 1_000_000)}} {
						if err := hist.Check(h); err != nil {
							t.Errorf("%v: got %v", h, err)
						}
					}
				}
			}
		}
	}
}

// TestFull holds 12.1: one op too many, or more, whatever they are; as many as may be are not.
func TestFull(t *testing.T) {
	for n := range api.MaxOps + 1 {
		if err := hist.Check(apart(n)); err != nil {
			t.Errorf("%d ops: got %v", n, err)
		}
	}
	for _, n := range []int{11, 12, 20, 64, 1 << 16} {
		tells(t, fmt.Sprint(n, " ops"), apart(n), api.ErrFull)
		tells(t, fmt.Sprint(n, " ops that are none"), make([]api.Op, n), api.ErrFull)
		tells(t, fmt.Sprint(n, " ops of one process at once"), slices.Repeat(history(write(0, 0, 1, 2, 3)), n), api.ErrFull)
	}
	for _, i := range []int{0, 5, 10} {
		for name, op := range badOps(apart(11)[i]) {
			tells(t, fmt.Sprintf("eleven ops, and %d has %s", i, name), with(apart(11), i, op), api.ErrFull)
		}
	}
}

// TestShape holds 12.1: From is not below To, at each place of histories of all lengths.
func TestShape(t *testing.T) {
	for n := 1; n <= api.MaxOps; n++ {
		for i := range n {
			for _, times := range [][2]int{{0, 0}, {1, 0}, {5, 5}, {6, 5}, {1_000_000, 0}, {1_000_000, 1_000_000}, {1_000_000, 999_999}, {999_999, 999_999}} {
				tells(t, fmt.Sprintf("op %d of %d writes at %v", i, n, times), with(apart(n), i, write(i%5, 0, 1, times[0], times[1])), api.ErrShape)
				tells(t, fmt.Sprintf("op %d of %d reads at %v", i, n, times), with(apart(n), i, read(0, 1, 0, times[0], times[1])), api.ErrShape)
			}
		}
	}
}

// sharing times with from 3 to 7.
func sharing() [][2]int {
	return [][2]int{{3, 7}, {3, 4}, {6, 7}, {4, 6}, {4, 5}, {3, 8}, {2, 7}, {2, 8}, {0, 4}, {2, 4}, {6, 8}, {6, 1_000_000}, {0, 1_000_000}}
}

// missing times: such as share none with from 3 to 7; some touch them.
func missing() [][2]int {
	return [][2]int{{0, 3}, {2, 3}, {1, 2}, {7, 8}, {7, 9}, {8, 9}, {7, 1_000_000}}
}

// others: n ops of another process than one, each when the one ahead was over.
func others(n, proc int) []api.Op {
	h := apart(n)
	for i := range h {
		h[i].Proc = (proc + 1) % api.MaxProcs
	}
	return h
}

// places of two ops in a history, ahead of each other in either way.
func places() [][2]int {
	return [][2]int{{0, 1}, {1, 0}, {0, 2}, {2, 0}, {1, 2}, {0, 9}, {9, 0}, {8, 9}, {9, 8}, {4, 7}, {7, 4}}
}

// atTimes: ops of a process of all kinds.
func atTimes(proc int, times [2]int) []api.Op {
	return history(write(proc, 0, 1, times[0], times[1]), write(proc, 2, 9, times[0], times[1]), read(proc, 0, 0, times[0], times[1]), read(proc, 1, 0, times[0], times[1]))
}

// TestClash holds 12.1: two of one process share a time, at any two places of a history, whatever they do; two of two processes may.
func TestClash(t *testing.T) {
	for _, at := range places() {
		for proc := range 5 {
			h := with(others(max(at[0], at[1])+1, proc), at[0], write(proc, 0, 1, 3, 7))
			for _, times := range sharing() {
				for _, op := range atTimes(proc, times) {
					tells(t, fmt.Sprintf("%d of process %d from 3 to 7, and %d at %v", at[0], proc, at[1], times), with(h, at[1], op), api.ErrClash)
					op.Proc = (proc + 2) % 5
					if err := hist.Check(with(h, at[1], op)); err != nil {
						t.Errorf("%d from 3 to 7, and %d of another process at %v: got %v", at[0], at[1], times, err)
					}
				}
			}
		}
	}
}

// TestNoClash holds 12.1: two of one process that share no time, though they touch.
func TestNoClash(t *testing.T) {
	for _, at := range places() {
		for proc := range 5 {
			h := with(others(max(at[0], at[1])+1, proc), at[0], write(proc, 0, 1, 3, 7))
			for _, times := range missing() {
				for _, op := range atTimes(proc, times) {
					if err := hist.Check(with(h, at[1], op)); err != nil {
						t.Errorf("%d of process %d from 3 to 7, and %d at %v: got %v", at[0], proc, at[1], times, err)
					}
				}
			}
		}
	}
}

// TestSeveralFaults holds 12.1: they are told op by op, of each in the order that the chapter names.
func TestSeveralFaults(t *testing.T) {
	fine, long := write(0, 0, 1, 3, 7), write(0, 1, 1, 0, 20)
	noProc, noObject, noWrite, noValue, noTime := fine, fine, fine, fine, fine
	noProc.Proc, noObject.Object, noWrite.Write, noValue.Value, noTime.To = 5, 3, 2, -1, 1_000_001
	shape, empty := write(0, 0, 1, 7, 3), write(0, 0, 1, 5, 5)
	noneAndShape := write(0, -1, 1, 7, 3)
	ranges := history(noProc, noObject, noWrite, noValue, noTime, noneAndShape, write(0, 0, 1, 5, -5), write(0, 0, 1, 1_000_002, 1_000_001))
	shapes := history(shape, empty, write(0, 0, 1, 19, 1))
	for i, bad := range ranges {
		tells(t, fmt.Sprintf("no numbers: %d", i), history(bad), api.ErrRange)
		tells(t, fmt.Sprintf("no numbers: %d, and at a time with one", i), history(fine, bad), api.ErrRange)
		tells(t, fmt.Sprintf("no numbers: %d, then a clash", i), history(bad, fine, long), api.ErrRange)
		tells(t, fmt.Sprintf("a clash, then no numbers: %d", i), history(fine, long, bad), api.ErrClash)
		tells(t, fmt.Sprintf("no numbers: %d, between two that share a time", i), history(fine, bad, long), api.ErrRange)
		for j, other := range shapes {
			tells(t, fmt.Sprintf("no numbers: %d, then no shape: %d", i, j), history(bad, other), api.ErrRange)
			tells(t, fmt.Sprintf("no shape: %d, then no numbers: %d", j, i), history(other, bad), api.ErrShape)
		}
	}
	for i, bad := range shapes {
		tells(t, fmt.Sprintf("no shape: %d, and at a time with one", i), history(long, bad), api.ErrShape)
		tells(t, fmt.Sprintf("no shape: %d, then a clash", i), history(bad, fine, long), api.ErrShape)
		tells(t, fmt.Sprintf("a clash, then no shape: %d", i), history(fine, long, bad), api.ErrClash)
		tells(t, fmt.Sprintf("no shape: %d, between two that share a time", i), history(fine, bad, long), api.ErrShape)
	}
	clash := history(fine, read(1, 0, 0, 3, 7), read(2, 0, 0, 3, 7), long)
	tells(t, "the first and the last one share a time", clash, api.ErrClash)
	tells(t, "the same, and no numbers behind", append(clash, noProc), api.ErrClash)
	tells(t, "the same, and no numbers ahead", with(clash, 1, noProc), api.ErrRange)
	tells(t, "the same, and no shape ahead", with(clash, 2, empty), api.ErrShape)
}

// wantCheck goes through the faults of 12.1 in its words.
func wantCheck(h []api.Op) api.Errno {
	if len(h) > 10 {
		return api.ErrFull
	}
	for i, op := range h {
		switch {
		case op.Proc < 0 || op.Proc > 4 || op.Object < 0 || op.Object > 2 || op.Write != 0 && op.Write != 1,
			min(op.Value, op.From, op.To) < 0 || max(op.Value, op.From, op.To) > 1_000_000:
			return api.ErrRange
		case !(op.From < op.To):
			return api.ErrShape
		}
		for _, ahead := range h[:i] {
			// They share a time just if both last when the later one begins.
			if last := max(ahead.From, op.From); ahead.Proc == op.Proc && last < ahead.To && last < op.To {
				return api.ErrClash
			}
		}
	}
	return api.OK
}

// TestEveryCheck holds 12.1 at all short histories of two processes with few times, some of which are none.
func TestEveryCheck(t *testing.T) {
	var some []api.Op
	for proc := range 2 {
		for from := -1; from <= 4; from++ {
			for to := -1; to <= 4; to++ {
				some = append(some, read(proc, 0, 0, from, to))
			}
		}
	}
	met := map[api.Errno]int{}
	for n := range 4 {
		h := make([]api.Op, n)
		var fill func(i int)
		fill = func(i int) {
			if i == n {
				want := wantCheck(h)
				if err := hist.Check(h); plain.Told(err) != want {
					t.Fatalf("Check %v: got %v, want %v", h, err, want)
				}
				met[want]++
				return
			}
			for _, op := range some {
				h[i] = op
				fill(i + 1)
			}
		}
		fill(0)
	}
	for _, e := range []api.Errno{api.OK, api.ErrRange, api.ErrShape, api.ErrClash} {
		if met[e] < 1000 {
			t.Errorf("met %v", met)
		}
	}
}
