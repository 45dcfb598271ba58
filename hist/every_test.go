package hist_test

import (
	"fmt"
	"slices"
	"testing"

	"whenstead/api"
	"whenstead/hist"
)

// isGood tells whether each op of a row, perhaps of some ops only, reads what was written last ahead of it to its object.
func isGood(h []api.Op, l []int) bool {
	for k, i := range l {
		last := 0
		for _, ahead := range l[:k] {
			if h[ahead].Write == 1 && h[ahead].Object == h[i].Object {
				last = h[ahead].Value
			}
		}
		if h[i].Write == 0 && h[i].Value != last {
			return false
		}
	}
	return true
}

// mustFollow tells whether op i is to stand behind op j: Weak asks it only of those of one process.
func mustFollow(h []api.Op, weak bool, i, j int) bool {
	return !(h[j].To > h[i].From) && (!weak || h[i].Proc == h[j].Proc)
}

// keepsTime tells whether each op of a row stands behind all behind which it is to stand.
func keepsTime(h []api.Op, weak bool, l []int) bool {
	for k, i := range l {
		for _, j := range l[k+1:] {
			if mustFollow(h, weak, i, j) {
				return false
			}
		}
	}
	return true
}

// rowsOf n ops, the least one first.
type rowsOf map[int][][]int

// of n ops all rows.
func (r rowsOf) of(n int) [][]int {
	if len(r[n]) > 0 {
		return r[n]
	}
	all := [][]int{{}}
	for range n {
		var longer [][]int
		for _, l := range all {
			for i := range n {
				if !slices.Contains(l, i) {
					longer = append(longer, append(slices.Clone(l), i))
				}
			}
		}
		all = longer
	}
	r[n] = all
	return all
}

// least row of all rows that is good and keeps time; or none.
func (r rowsOf) least(h []api.Op, weak bool) []int {
	for _, l := range r.of(len(h)) {
		if isGood(h, l) && keepsTime(h, weak, l) {
			return l
		}
	}
	return none
}

// hold Atomic and Weak of a history against what comes of trying all rows; and tell which of them are so.
func (r rowsOf) hold(t *testing.T, h []api.Op) string {
	t.Helper()
	atomic, weak := r.least(h, false), r.least(h, true)
	is, got, err := hist.Atomic(h)
	if err != nil || is != (atomic != nil) || !slices.Equal(got, atomic) {
		t.Fatalf("Atomic %v: got %v, %v, %v, want %v", h, is, got, err, atomic)
	}
	is, got, err = hist.Weak(h)
	if err != nil || is != (weak != nil) || !slices.Equal(got, weak) {
		t.Fatalf("Weak %v: got %v, %v, %v, want %v", h, is, got, err, weak)
	}
	return fmt.Sprint(atomic != nil, weak != nil, slices.Equal(atomic, weak))
}

// wantMet: all that may come of a history came many times.
func wantMet(t *testing.T, met map[string]int, many int) {
	t.Helper()
	for _, s := range []string{"true true true", "true true false", "false true false", "false false true"} {
		if met[s] < many {
			t.Errorf("met %v", met)
		}
	}
	if len(met) != 4 {
		t.Errorf("met %v", met)
	}
}

// everyList of so many out of some ops.
func everyList(long int, some []api.Op, of func(h []api.Op)) {
	h := make([]api.Op, long)
	var fill func(i int)
	fill = func(i int) {
		if i == long {
			of(h)
			return
		}
		for _, op := range some {
			h[i] = op
			fill(i + 1)
		}
	}
	fill(0)
}

// TestEvery holds 12.2 at all histories of up to three ops over few processes, objects, values and times.
func TestEvery(t *testing.T) {
	met, rows := map[string]int{}, rowsOf{}
	for _, x := range []struct{ long, procs, objects, values, times int }{{0, 1, 1, 1, 1}, {1, 5, 3, 3, 4}, {2, 3, 2, 2, 5}, {3, 2, 1, 2, 4}, {3, 3, 1, 2, 3}, {3, 2, 2, 2, 3}} {
		var some []api.Op
		for proc := range x.procs {
			for object := range x.objects {
				for value := range x.values {
					for to := range x.times {
						for from := range to {
							some = append(some, read(proc, object, value, from, to), write(proc, object, value, from, to))
						}
					}
				}
			}
		}
		everyList(x.long, some, func(h []api.Op) {
			if wantCheck(h) == api.OK {
				met[rows.hold(t, h)]++
			}
		})
	}
	wantMet(t, met, 1000)
}

// layouts: who did something, and when; nothing is said of what.
func layouts() [][]api.Op {
	at := func(all ...[3]int) []api.Op {
		var h []api.Op
		for _, x := range all {
			h = append(h, api.Op{Proc: x[0], From: x[1], To: x[2]})
		}
		return h
	}
	return [][]api.Op{
		at([3]int{0, 0, 9}, [3]int{1, 0, 9}, [3]int{2, 0, 9}, [3]int{3, 0, 9}),
		at([3]int{0, 0, 1}, [3]int{0, 1, 2}, [3]int{0, 2, 3}, [3]int{0, 3, 4}),
		at([3]int{0, 2, 3}, [3]int{0, 0, 1}, [3]int{0, 3, 4}, [3]int{0, 1, 2}),
		at([3]int{3, 3, 4}, [3]int{2, 2, 3}, [3]int{1, 1, 2}, [3]int{0, 0, 1}),
		at([3]int{0, 0, 2}, [3]int{0, 2, 4}, [3]int{1, 0, 2}, [3]int{1, 2, 4}),
		at([3]int{1, 2, 4}, [3]int{1, 0, 2}, [3]int{0, 1, 3}, [3]int{0, 3, 5}),
		at([3]int{0, 0, 9}, [3]int{1, 1, 2}, [3]int{1, 3, 4}, [3]int{2, 1, 4}),
		at([3]int{1, 3, 4}, [3]int{2, 3, 4}, [3]int{1, 1, 2}, [3]int{2, 1, 2}),
	}
}

// longLayouts of five ops.
func longLayouts() [][]api.Op {
	var all [][]api.Op
	for i, l := range layouts() {
		all = append(all, append(slices.Clone(l), api.Op{Proc: 4, From: i % 4, To: 4}))
	}
	return all
}

// everyDeed of a history that is laid out: what its ops did, out of some deeds.
func everyDeed(layout, deeds []api.Op, of func(h []api.Op)) {
	everyList(len(layout), deeds, func(h []api.Op) {
		h = slices.Clone(h)
		for i, op := range layout {
			h[i].Proc, h[i].From, h[i].To = op.Proc, op.From, op.To
		}
		of(h)
	})
}

// TestEveryDeed holds 12.2 at all histories of four and five ops that are laid out in some ways.
func TestEveryDeed(t *testing.T) {
	met, rows := map[string]int{}, rowsOf{}
	one := history(write(0, 0, 1, 0, 0), write(0, 0, 2, 0, 0), read(0, 0, 0, 0, 0), read(0, 0, 1, 0, 0), read(0, 0, 2, 0, 0))
	two := history(write(0, 0, 1, 0, 0), write(0, 1, 1, 0, 0), read(0, 0, 0, 0, 0), read(0, 0, 1, 0, 0), read(0, 1, 0, 0, 0), read(0, 1, 1, 0, 0))
	for _, layout := range layouts() {
		everyDeed(layout, slices.Concat(one, two[1:2], two[4:]), func(h []api.Op) { met[rows.hold(t, h)]++ })
	}
	for _, layout := range longLayouts() {
		everyDeed(layout, one, func(h []api.Op) { met[rows.hold(t, h)]++ })
		everyDeed(layout, two, func(h []api.Op) { met[rows.hold(t, h)]++ })
	}
	wantMet(t, met, 1000)
}
