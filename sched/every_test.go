package sched_test

import (
	"slices"
	"testing"

	"whenstead/api"
	"whenstead/sched"
)

// mustFollow: of each two transactions whether one has an act that stands behind one of the other, on one item that one of the two writes.
type mustFollow [5][5]bool

// pairsOf a schedule: it goes over all pairs of transactions, and of each over all pairs of acts.
func pairsOf(s []api.Act) mustFollow {
	var all mustFollow
	for a := range 5 {
		for b := range 5 {
			for i := range s {
				for j := range s {
					if a != b && s[i].Tx == a && s[j].Tx == b && i < j && s[i].Item == s[j].Item && s[i].Write+s[j].Write > 0 {
						all[a][b] = true
					}
				}
			}
		}
	}
	return all
}

// edges of all pairs, as sets.
func (m mustFollow) edges() []int {
	sets := make([]int, 5)
	for a := range m {
		for b, is := range m[a] {
			if is {
				sets[a] += 1 << b
			}
		}
	}
	return sets
}

// allows tells whether in a row each stands ahead of those that must follow it.
func (m mustFollow) allows(l []int) bool {
	for k, b := range l {
		for _, a := range l[k+1:] {
			if m[a][b] {
				return false
			}
		}
	}
	return true
}

// leastOf pairs: the least row of all rows that is allowed; kept by pairs, as many schedules have the same.
type leastOf map[mustFollow][]int

// row of some pairs; or none.
func (of leastOf) row(m mustFollow) []int {
	if l, ok := of[m]; ok {
		return l
	}
	of[m] = none
	for _, l := range everyRow() {
		if m.allows(l) {
			of[m] = l
			break
		}
	}
	return of[m]
}

// wantReads of a schedule: of each act each one ahead is asked, the later ones last.
func wantReads(s []api.Act) []int {
	reads := make([]int, len(s))
	for j, a := range s {
		reads[j] = -1
		for i, b := range s[:j] {
			if a.Write == 0 && b.Write == 1 && a.Item == b.Item {
				reads[j] = i
			}
		}
	}
	return reads
}

// wantPlaces of a schedule: sorted by where their transactions stand, and as they stand.
func wantPlaces(s []api.Act, l []int) []int {
	places := make([]int, len(s))
	for i := range places {
		places[i] = i
	}
	slices.SortStableFunc(places, func(i, j int) int { return slices.Index(l, s[i].Tx) - slices.Index(l, s[j].Tx) })
	return places
}

// hold what is told of a schedule against the ways above; and give the least row.
func (of leastOf) hold(t *testing.T, s []api.Act) []int {
	t.Helper()
	m := pairsOf(s)
	least := of.row(m)
	if err := sched.Check(s); err != nil {
		t.Fatalf("Check %v: got %v", s, err)
	}
	if got, err := sched.Edges(s); err != nil || !slices.Equal(got, m.edges()) {
		t.Fatalf("Edges %v: got %v, %v, want %v", s, got, err, m.edges())
	}
	if is, got, err := sched.Serial(s); err != nil || is != (least != nil) || !slices.Equal(got, least) {
		t.Fatalf("Serial %v: got %v, %v, %v, want %v", s, is, got, err, least)
	}
	if got, err := sched.Reads(s); err != nil || !slices.Equal(got, wantReads(s)) {
		t.Fatalf("Reads %v: got %v, %v, want %v", s, got, err, wantReads(s))
	}
	return least
}

// holdOrdered: the places by a row.
func holdOrdered(t *testing.T, s []api.Act, l []int) {
	t.Helper()
	if got, err := sched.Ordered(s, l); err != nil || !slices.Equal(got, wantPlaces(s, l)) {
		t.Fatalf("Ordered %v, %v: got %v, %v, want %v", s, l, got, err, wantPlaces(s, l))
	}
}

// kinds of acts of some transactions, on some items.
func kinds(txs, items int) []api.Act {
	var all []api.Act
	for tx := range txs {
		for item := range items {
			all = append(all, read(tx, item), write(tx, item))
		}
	}
	return all
}

// everySchedule of so many acts out of some kinds.
func everySchedule(long int, some []api.Act, of func(s []api.Act)) {
	s := make([]api.Act, long)
	everyList(long, 0, len(some)-1, func(l []int) {
		for i, x := range l {
			s[i] = some[x]
		}
		of(s)
	})
}

// TestEvery holds 13.1 and 13.2 at all schedules of up to seven acts, of fewer and fewer kinds.
func TestEvery(t *testing.T) {
	of, met, rows := leastOf{}, map[string]int{}, everyRow()
	for _, x := range []struct{ long, txs, items int }{{0, 1, 1}, {1, 5, 4}, {2, 5, 4}, {3, 5, 3}, {4, 5, 1}, {4, 3, 2}, {5, 4, 1}, {5, 2, 2}, {6, 3, 1}, {7, 2, 1}} {
		n := 0
		everySchedule(x.long, kinds(x.txs, x.items), func(s []api.Act) {
			least := of.hold(t, s)
			holdOrdered(t, s, rows[n%len(rows)])
			n++
			switch {
			case least == nil:
				met["none"]++
			case slices.IsSorted(least):
				met["first"]++
			default:
				met["other"]++
			}
		})
	}
	if met["none"] < 1000 || met["first"] < 1000 || met["other"] < 1000 {
		t.Errorf("met %v", met)
	}
}

// TestEveryOrdered holds 13.2 at all rows of all schedules of up to two acts, and of all three that read one item.
func TestEveryOrdered(t *testing.T) {
	rows := everyRow()
	for long := range 3 {
		everySchedule(long, kinds(5, 1), func(s []api.Act) {
			for _, l := range rows {
				holdOrdered(t, s, l)
			}
		})
	}
	everySchedule(3, []api.Act{read(0, 3), read(1, 3), read(2, 3), read(3, 3), read(4, 3)}, func(s []api.Act) {
		for _, l := range rows {
			holdOrdered(t, s, l)
		}
	})
}

// wanting: a schedule with just such pairs: of each an item is read and written; all edges out of one bit for each pair.
func wanting(bits int) (s []api.Act, ok bool) {
	item := 0
	for a := range 5 {
		for b := range 5 {
			if a == b {
				continue
			}
			if bits&1 == 1 {
				if item == 4 {
					return nil, false
				}
				s = append(s, read(a, item), write(b, item))
				item++
			}
			bits >>= 1
		}
	}
	return s, true
}

// TestEveryEdges holds 13.1 at all sets of up to four edges between the transactions, each by an item of its own.
func TestEveryEdges(t *testing.T) {
	of, n, rings := leastOf{}, 0, 0
	for bits := range 1 << 20 {
		s, ok := wanting(bits)
		if !ok {
			continue
		}
		n++
		if of.hold(t, s) == nil {
			rings++
		}
	}
	if n != 1+20+190+1140+4845 || rings < 1000 {
		t.Errorf("met %d, of them %d with a ring", n, rings)
	}
}
