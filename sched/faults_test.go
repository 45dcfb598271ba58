package sched_test

import (
	"fmt"
	"math"
	"slices"
	"testing"

	"whenstead/api"
	"whenstead/plain"
	"whenstead/sched"
)

// tells: all calls tell an error of a schedule, and answer nothing beside it; Ordered whatever the row is.
func tells(t *testing.T, name string, s []api.Act, want api.Errno) {
	t.Helper()
	if err := sched.Check(s); plain.Told(err) != want {
		t.Errorf("%s: Check: got %v, want %v", name, err, want)
	}
	if got, err := sched.Edges(s); plain.Told(err) != want || got != nil {
		t.Errorf("%s: Edges: got %v, %v, want %v", name, got, err, want)
	}
	if is, got, err := sched.Serial(s); plain.Told(err) != want || is || got != nil {
		t.Errorf("%s: Serial: got %v, %v, %v, want %v", name, is, got, err, want)
	}
	if got, err := sched.Reads(s); plain.Told(err) != want || got != nil {
		t.Errorf("%s: Reads: got %v, %v, want %v", name, got, err, want)
	}
	for _, l := range [][]int{row(3, 1, 4, 0, 2), nil, row(0, 1, 2, 3), row(0, 1, 2, 3, 4, 5), row(0, 1, 2, 3, 5), row(0, 1, 2, 3, 3)} {
		tellsOrdered(t, name, s, l, want)
	}
}

// tellsOrdered: Ordered tells an error of a schedule or of a row, and answers nothing beside it.
func tellsOrdered(t *testing.T, name string, s []api.Act, l []int, want api.Errno) {
	t.Helper()
	if got, err := sched.Ordered(s, l); plain.Told(err) != want || got != nil {
		t.Errorf("%s: Ordered %v: got %v, %v, want %v", name, l, got, err, want)
	}
}

// many acts: n with which nothing is wrong.
func many(n int) []api.Act {
	s := make([]api.Act, n)
	for i := range s {
		s[i] = api.Act{Tx: i % api.MaxTxs, Item: i % api.MaxItems, Write: i / 3 % 2}
	}
	return s
}

// with another act at a place.
func with(s []api.Act, i int, a api.Act) []api.Act {
	s = slices.Clone(s)
	s[i] = a
	return s
}

// outside numbers: below 0, and above the greatest that may be.
func outside(most int) []int {
	return []int{-1, -2, -most, -most - 1, -63, -64, -1 << 32, math.MinInt, math.MinInt + 1,
		most + 1, most + 2, 2*most + 1, 63, 64, 65, 1 << 32, 1<<32 + 1, 1 << 62, math.MaxInt}
}

// badActs: such of which one number is none that may be; all else of them is as it was.
func badActs(a api.Act) map[string]api.Act {
	all := map[string]api.Act{}
	put := func(name string, most int, set func(a *api.Act, x int)) {
		for _, x := range outside(most) {
			bad := a
			set(&bad, x)
			all[fmt.Sprint(name, " ", x)] = bad
		}
	}
	put("Tx", 4, func(a *api.Act, x int) { a.Tx = x })
	put("Item", 3, func(a *api.Act, x int) { a.Item = x })
	put("Write", 1, func(a *api.Act, x int) { a.Write = x })
	return all
}

// TestRange holds 13.1: each number of an act, below and above what may be, at each place of schedules of all lengths.
func TestRange(t *testing.T) {
	for n := 1; n <= api.MaxActs; n++ {
		for i := range n {
			s := many(n)
			for name, a := range badActs(s[i]) {
				tells(t, fmt.Sprintf("act %d of %d has %s", i, n, name), with(s, i, a), api.ErrRange)
			}
		}
	}
	for name, a := range badActs(read(4, 3)) {
		tells(t, "it reads, and has "+name, []api.Act{a}, api.ErrRange)
	}
	for name, a := range badActs(write(4, 3)) {
		tells(t, "it writes, and has "+name, []api.Act{a}, api.ErrRange)
	}
	for _, x := range outside(4) {
		tells(t, fmt.Sprint("all are ", x), []api.Act{{Tx: x, Item: x, Write: x}}, api.ErrRange)
	}
}

// TestMayBe holds 13.1: all numbers that may be, may be.
func TestMayBe(t *testing.T) {
	for tx := range 5 {
		for item := range 4 {
			for _, s := range [][]api.Act{{read(tx, item)}, {write(tx, item)}, {read(tx, item), write(tx, item)}, {write(4-tx, 3-item), read(tx, item)}} {
				if err := sched.Check(s); err != nil {
					t.Errorf("%v: got %v", s, err)
				}
			}
		}
	}
}

// TestFull holds 13.1: one act too many, or more, whatever they are; as many as may be are not.
func TestFull(t *testing.T) {
	for n := range api.MaxActs + 1 {
		if err := sched.Check(many(n)); err != nil {
			t.Errorf("%d acts: got %v", n, err)
		}
	}
	for _, n := range []int{25, 26, 30, 48, 64, 1 << 16} {
		tells(t, fmt.Sprint(n, " acts"), many(n), api.ErrFull)
		tells(t, fmt.Sprint(n, " acts that are alike"), make([]api.Act, n), api.ErrFull)
		tells(t, fmt.Sprint(n, " acts of which none may be"), slices.Repeat([]api.Act{{Tx: 5, Item: 4, Write: 2}}, n), api.ErrFull)
	}
	for _, i := range []int{0, 12, 23, 24} {
		for name, a := range badActs(many(25)[i]) {
			tells(t, fmt.Sprintf("too many acts, and %d has %s", i, name), with(many(25), i, a), api.ErrFull)
		}
	}
}

// someSchedules with which nothing is wrong, also such with rings.
func someSchedules() [][]api.Act {
	return [][]api.Act{nil, {}, acts("2w1"), acts("0w0 1w0 0w0"), many(5), many(24)}
}

// TestOrderedShape holds 13.2: a row that is too short or too long, whatever its numbers are.
func TestOrderedShape(t *testing.T) {
	for _, s := range someSchedules() {
		for n := range 20 {
			if n == 5 {
				continue
			}
			l := make([]int, n)
			tellsOrdered(t, "all are one", s, l, api.ErrShape)
			for i := range l {
				l[i] = i
			}
			tellsOrdered(t, "from 0 on", s, l, api.ErrShape)
			for _, x := range outside(4) {
				tellsOrdered(t, "all are none", s, slices.Repeat(row(x), n), api.ErrShape)
			}
		}
		tellsOrdered(t, "none", s, nil, api.ErrShape)
		tellsOrdered(t, "very many", s, make([]int, 1<<16), api.ErrShape)
	}
}

// everyRow of all transactions, the least first.
func everyRow() [][]int {
	all := [][]int{{}}
	for range 5 {
		var longer [][]int
		for _, l := range all {
			for tx := range 5 {
				if !slices.Contains(l, tx) {
					longer = append(longer, append(slices.Clone(l), tx))
				}
			}
		}
		all = longer
	}
	return all
}

// TestOrderedRange holds 13.2: one number that is no transaction, at each place of each row.
func TestOrderedRange(t *testing.T) {
	for _, s := range someSchedules() {
		for _, l := range everyRow() {
			for i := range l {
				for _, x := range outside(4) {
					bad := slices.Clone(l)
					bad[i] = x
					tellsOrdered(t, "one is none", s, bad, api.ErrRange)
				}
			}
		}
	}
}

// TestOrderedClash holds 13.2: one number that stands twice, at any two places of each row.
func TestOrderedClash(t *testing.T) {
	for _, s := range someSchedules() {
		for _, l := range everyRow() {
			for i := range l {
				for j := range i {
					bad := slices.Clone(l)
					bad[i] = bad[j]
					tellsOrdered(t, "one stands twice", s, bad, api.ErrClash)
				}
			}
		}
	}
}

// TestOrderedSeveral holds 13.2: what is wrong with a row is told in the order in which it stands there.
func TestOrderedSeveral(t *testing.T) {
	for _, x := range []struct {
		row  []int
		want api.Errno
	}{
		{row(5, 0, 0, 1, 2), api.ErrRange},
		{row(0, 0, 5, 1, 2), api.ErrClash},
		{row(0, 5, 0, 1, 2), api.ErrRange},
		{row(0, -1, 0, 0, 0), api.ErrRange},
		{row(3, 2, 1, 3, -1), api.ErrClash},
		{row(3, 2, 1, -1, 3), api.ErrRange},
		{row(7, 7, 0, 1, 2), api.ErrRange},
		{row(0, 0, 7, 7, 7), api.ErrClash},
		{row(4, 4, 4, 4, 4), api.ErrClash},
		{row(4, 4, 4, 4), api.ErrShape},
		{row(5, 4, 4, 4), api.ErrShape},
		{row(5, 4, 4, 4, 4, 4), api.ErrShape},
		{row(0, 1, 2, 3, 4, 0), api.ErrShape},
		{row(0, 1, 2, 3, 4, 5), api.ErrShape},
	} {
		for _, s := range someSchedules() {
			tellsOrdered(t, "several", s, x.row, x.want)
		}
	}
}

// wantCheck goes through the faults of 13.1 in its words.
func wantCheck(s []api.Act) api.Errno {
	if len(s) > 24 {
		return api.ErrFull
	}
	for _, a := range s {
		if a.Tx < 0 || a.Tx > 4 || a.Item < 0 || a.Item > 3 || a.Write != 0 && a.Write != 1 {
			return api.ErrRange
		}
	}
	return api.OK
}

// wantOrdered goes through the faults of Ordered in the words of 13.2.
func wantOrdered(s []api.Act, l []int) api.Errno {
	if e := wantCheck(s); e != api.OK {
		return e
	}
	if len(l) != 5 {
		return api.ErrShape
	}
	for k, tx := range l {
		if tx < 0 || tx > 4 {
			return api.ErrRange
		}
		if slices.Contains(l[:k], tx) {
			return api.ErrClash
		}
	}
	return api.OK
}

// everyList of so many numbers from least to most.
func everyList(long, least, most int, of func(l []int)) {
	l := make([]int, long)
	var fill func(i int)
	fill = func(i int) {
		if i == long {
			of(l)
			return
		}
		for x := least; x <= most; x++ {
			l[i] = x
			fill(i + 1)
		}
	}
	fill(0)
}

// TestEveryRowFault holds 13.2 at all rows of up to six small numbers.
func TestEveryRowFault(t *testing.T) {
	s, met := acts("2w1 0r1 4w0 2r3"), map[api.Errno]int{}
	for long := range 7 {
		everyList(long, -1, 5, func(l []int) {
			want := wantOrdered(s, l)
			met[want]++
			if got, err := sched.Ordered(s, l); plain.Told(err) != want || (got != nil) != (want == api.OK) {
				t.Fatalf("%v: got %v, %v, want %v", l, got, err, want)
			}
		})
	}
	if met[api.OK] != 120 || met[api.ErrRange] < 1000 || met[api.ErrClash] < 1000 || met[api.ErrShape] < 1000 {
		t.Errorf("met %v", met)
	}
}

// TestEveryCheck holds 13.1 at all schedules of up to two acts with numbers some of which are none.
func TestEveryCheck(t *testing.T) {
	met := map[api.Errno]int{}
	for long := range 3 {
		everyList(long, -1, 5, func(txs []int) {
			everyList(long, -1, 4, func(items []int) {
				everyList(long, -1, 2, func(writes []int) {
					s := make([]api.Act, long)
					for i := range s {
						s[i] = api.Act{Tx: txs[i], Item: items[i], Write: writes[i]}
					}
					want := wantCheck(s)
					met[want]++
					if err := sched.Check(s); plain.Told(err) != want {
						t.Fatalf("%v: got %v, want %v", s, err, want)
					}
				})
			})
		})
	}
	if met[api.OK] != 1+40+1600 || met[api.ErrRange] < 1000 {
		t.Errorf("met %v", met)
	}
}
