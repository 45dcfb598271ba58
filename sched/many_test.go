package sched_test

import (
	"slices"
	"testing"

	"whenstead/api"
	"whenstead/extend"
	"whenstead/fold"
	"whenstead/order"
	"whenstead/plain"
	"whenstead/sched"
)

// chance gives numbers that look as if by chance, but are the same at each run.
type chance uint

// next number below n.
func (c *chance) next(n int) int {
	*c = *c*6364136223846793005 + 1442695040888963407
	return int((uint(*c) >> 33) % uint(n))
}

// anyRow of so many, each once.
func (c *chance) anyRow(n int) []int {
	l := make([]int, n)
	for i := range l {
		j := c.next(i + 1)
		l[i], l[j] = l[j], i
	}
	return l
}

// anyActs: so many, of few or of all transactions and items, with few or with many that write.
func (c *chance) anyActs(n int) []api.Act {
	txs, items, writes := 1+c.next(5), 1+c.next(4), c.next(6)
	s := make([]api.Act, n)
	for i := range s {
		s[i] = api.Act{Tx: 4 - c.next(txs), Item: 3 - c.next(items)}
		if c.next(5) < writes {
			s[i].Write = 1
		}
	}
	return s
}

// inRow: what is done in a schedule, transaction by transaction.
func inRow(s []api.Act, l []int) []api.Act {
	var all []api.Act
	for _, i := range wantPlaces(s, l) {
		all = append(all, s[i])
	}
	return all
}

// clash tells whether two acts may not change places.
func clash(a, b api.Act) bool {
	return a.Tx == b.Tx || a.Item == b.Item && a.Write+b.Write > 0
}

// mixed: a schedule of which neighbours changed places many times, where they may.
func (c *chance) mixed(s []api.Act) []api.Act {
	s = slices.Clone(s)
	for range 20 * len(s) {
		i := c.next(len(s))
		if i > 0 && !clash(s[i-1], s[i]) {
			s[i-1], s[i] = s[i], s[i-1]
		}
	}
	return s
}

// anySchedule of so many acts: as it comes, or one behind the other and mixed; then it is serial.
func (c *chance) anySchedule(n int) (s []api.Act, isSerial bool) {
	s = c.anyActs(n)
	if c.next(2) == 0 {
		return s, false
	}
	return c.mixed(inRow(s, c.anyRow(5))), true
}

// lastWrites: of each item the place of what is written last; or -1.
func lastWrites(s []api.Act) [4]int {
	last := [4]int{-1, -1, -1, -1}
	for i, a := range s {
		if a.Write == 1 {
			last[a.Item] = i
		}
	}
	return last
}

// holdSameThing: put one behind the other by what Serial tells, all read what they read, and each item is written last by the same one.
func holdSameThing(t *testing.T, s []api.Act, l []int) {
	t.Helper()
	places, err1 := sched.Ordered(s, l)
	reads, err2 := sched.Reads(s)
	apart := inRow(s, l)
	readsApart, err3 := sched.Reads(apart)
	if err1 != nil || err2 != nil || err3 != nil {
		t.Fatalf("%v, %v: got %v, %v, %v", s, l, err1, err2, err3)
	}
	for k, i := range places {
		found := readsApart[k]
		if found >= 0 {
			found = places[found]
		}
		if found != reads[i] {
			t.Fatalf("%v: act %d reads %d, but by %v it reads %d", s, i, reads[i], l, found)
		}
	}
	for item, k := range lastWrites(apart) {
		if k >= 0 && places[k] != lastWrites(s)[item] {
			t.Fatalf("%v: item %d is written last at %d, but by %v at %d", s, item, lastWrites(s)[item], l, places[k])
		}
	}
	edges, _ := sched.Edges(s)
	if got, err := sched.Edges(apart); err != nil || !slices.Equal(got, edges) {
		t.Fatalf("%v: edges %v, but by %v %v, %v", s, edges, l, got, err)
	}
}

// holdOrder: the edges are an order of chapter 1 just if there is a row, and the row is the first of chapter 3.
func holdOrder(t *testing.T, s []api.Act, l []int) {
	t.Helper()
	edges, err := sched.Edges(s)
	if err != nil || len(edges) != 5 {
		t.Fatalf("Edges %v: got %v, %v", s, edges, err)
	}
	if got := plain.Told(order.Check(edges)); (got == api.OK) != (l != nil) || l == nil && got != api.ErrClash {
		t.Fatalf("%v: %v is %v, but the row is %v", s, edges, got, l)
	}
	if l == nil {
		return
	}
	if is, err := extend.Is(edges, l); err != nil || !is {
		t.Fatalf("%v: %v is no row of %v: %v", s, l, edges, err)
	}
	if first, err := extend.First(edges); err != nil || !slices.Equal(first, l) {
		t.Fatalf("%v: got %v, but the first row of %v is %v, %v", s, l, edges, first, err)
	}
}

// TestMany holds 13.1 and 13.2 at many schedules of all lengths.
func TestMany(t *testing.T) {
	c, of, rings := chance(13), leastOf{}, 0
	for range 20000 {
		s, isSerial := c.anySchedule(c.next(api.MaxActs + 1))
		least := of.hold(t, s)
		holdOrdered(t, s, c.anyRow(5))
		holdOrder(t, s, least)
		if least == nil {
			rings++
			if isSerial {
				t.Fatalf("%v: no row, but it was made from one", s)
			}
			continue
		}
		holdSameThing(t, s, least)
	}
	if rings < 2000 || rings > 18000 {
		t.Errorf("met %d rings", rings)
	}
}

// TestMadeSerial holds 13.1: what is one behind the other has a row, and keeps its edges when acts change places that may.
func TestMadeSerial(t *testing.T) {
	c := chance(130)
	for range 5000 {
		l := c.anyRow(5)
		s := inRow(c.anyActs(c.next(api.MaxActs+1)), l)
		want, _ := sched.Edges(s)
		for a, behind := range want {
			for b := range 5 {
				if behind>>b&1 == 1 && slices.Index(l, a) > slices.Index(l, b) {
					t.Fatalf("%v by %v: %d must come behind %d", s, l, b, a)
				}
			}
		}
		mixed := c.mixed(s)
		edges, err := sched.Edges(mixed)
		if err != nil || !slices.Equal(edges, want) {
			t.Fatalf("%v: got %v, %v, but of %v %v", mixed, edges, err, s, want)
		}
		is, least, err := sched.Serial(mixed)
		if err != nil || !is || slices.Compare(least, l) > 0 {
			t.Fatalf("%v, made by %v: got %v, %v, %v", mixed, l, is, least, err)
		}
	}
}

// fewKinds of acts: as many as there are letters in chapter 11.
func (c *chance) fewKinds() []api.Act {
	txs, items := 2+c.next(4), 1+c.next(2)
	some := kinds(txs, items)
	for i := range some {
		j := c.next(i + 1)
		some[i], some[j] = some[j], some[i]
	}
	return some[:min(len(some), api.MaxLetters)]
}

// wordOf a schedule: the letters are its kinds of acts.
func wordOf(s, some []api.Act) []int {
	w := make([]int, len(s))
	for i, a := range s {
		w[i] = slices.Index(some, a)
	}
	return w
}

// leastByWords: the least row by which a schedule, one behind the other, is the same word by chapter 11; or none.
func leastByWords(t *testing.T, s, some []api.Act) []int {
	t.Helper()
	free := make([]int, len(some))
	for i, a := range some {
		for j, b := range some {
			if !clash(a, b) {
				free[i] |= 1 << j
			}
		}
	}
	for _, l := range everyRow() {
		same, err := fold.Same(free, wordOf(s, some), wordOf(inRow(s, l), some))
		if err != nil {
			t.Fatalf("Same %v, %v: got %v", s, l, err)
		}
		if same {
			return l
		}
	}
	return none
}

// TestWords holds 13.1 against chapter 11: there is a row just if neighbours that may change places can come to stand one behind the other by it.
func TestWords(t *testing.T) {
	c, rings, others := chance(131), 0, 0
	for range 3000 {
		some := c.fewKinds()
		s := make([]api.Act, c.next(c.next(api.MaxActs)+2))
		for i := range s {
			s[i] = some[c.next(len(some))]
		}
		want := leastByWords(t, s, some)
		is, got, err := sched.Serial(s)
		if err != nil || is != (want != nil) || !slices.Equal(got, want) {
			t.Fatalf("%v: got %v, %v, %v, want %v", s, is, got, err, want)
		}
		if want == nil {
			rings++
		} else if !slices.IsSorted(want) {
			others++
		}
	}
	if rings < 300 || others < 300 {
		t.Errorf("met %d rings and %d other rows than the first", rings, others)
	}
}

// otherwise: a schedule in which transactions and items change their names; each by where it stands in a row.
func otherwise(s []api.Act, txs, items []int) []api.Act {
	s = slices.Clone(s)
	for i := range s {
		s[i].Tx, s[i].Item = txs[s[i].Tx], items[s[i].Item]
	}
	return s
}

// TestOtherNames holds 13.1 and 13.2: what is told hangs on what the transactions do, not on their names.
func TestOtherNames(t *testing.T) {
	c := chance(132)
	for range 5000 {
		s, _ := c.anySchedule(c.next(api.MaxActs + 1))
		txs, items, l := c.anyRow(5), c.anyRow(4), c.anyRow(5)
		other := otherwise(s, txs, items)
		edges, _ := sched.Edges(s)
		named := make([]int, 5)
		otherRow := make([]int, 5)
		for a, behind := range edges {
			for b := range 5 {
				named[txs[a]] |= (behind >> b & 1) << txs[b]
			}
			otherRow[a] = txs[l[a]]
		}
		if got, err := sched.Edges(other); err != nil || !slices.Equal(got, named) {
			t.Fatalf("Edges %v: got %v, %v, want %v", other, got, err, named)
		}
		is, _, _ := sched.Serial(s)
		if got, _, err := sched.Serial(other); err != nil || got != is {
			t.Fatalf("Serial %v: got %v, %v, want %v", other, got, err, is)
		}
		reads, _ := sched.Reads(s)
		if got, err := sched.Reads(other); err != nil || !slices.Equal(got, reads) {
			t.Fatalf("Reads %v: got %v, %v, want %v", other, got, err, reads)
		}
		places, _ := sched.Ordered(s, l)
		if got, err := sched.Ordered(other, otherRow); err != nil || !slices.Equal(got, places) {
			t.Fatalf("Ordered %v, %v: got %v, %v, want %v", other, otherRow, got, err, places)
		}
	}
}

// TestTurned holds 13.1: told from the last act on, all edges go the other way.
func TestTurned(t *testing.T) {
	c := chance(133)
	for range 5000 {
		s, _ := c.anySchedule(c.next(api.MaxActs + 1))
		edges, _ := sched.Edges(s)
		is, _, _ := sched.Serial(s)
		slices.Reverse(s)
		want := make([]int, 5)
		for a, behind := range edges {
			for b := range 5 {
				want[b] |= (behind >> b & 1) << a
			}
		}
		if got, err := sched.Edges(s); err != nil || !slices.Equal(got, want) {
			t.Fatalf("Edges %v: got %v, %v, want %v", s, got, err, want)
		}
		if got, _, err := sched.Serial(s); err != nil || got != is {
			t.Fatalf("Serial %v: got %v, %v, want %v", s, got, err, is)
		}
	}
}

// anyFault puts one or several into a schedule; perhaps none.
func (c *chance) anyFault(s []api.Act) []api.Act {
	s = slices.Clone(s)
	for range c.next(3) {
		if len(s) == 0 || c.next(6) == 0 {
			s = append(s, c.anyActs(1+c.next(4))...)
			continue
		}
		a := &s[c.next(len(s))]
		switch c.next(3) {
		case 0:
			a.Tx = c.next(7) - 1
		case 1:
			a.Item = c.next(6) - 1
		case 2:
			a.Write = c.next(4) - 1
		}
	}
	return s
}

// anyBadRow: a row with something changed; perhaps nothing.
func (c *chance) anyBadRow() []int {
	l := c.anyRow(5)
	for range c.next(3) {
		switch c.next(4) {
		case 0:
			l = append(l, c.next(7)-1)
		case 1:
			l = l[:max(0, len(l)-1)]
		default:
			if len(l) > 0 {
				l[c.next(len(l))] = c.next(7) - 1
			}
		}
	}
	return l
}

// TestManyFaults holds 13.1 and 13.2 at many schedules and rows with something changed.
func TestManyFaults(t *testing.T) {
	c, met := chance(134), map[api.Errno]int{}
	for range 20000 {
		s, _ := c.anySchedule(c.next(api.MaxActs + 1))
		s = c.anyFault(s)
		if want := wantCheck(s); want != api.OK {
			tells(t, "changed", s, want)
		}
		l := c.anyBadRow()
		want := wantOrdered(s, l)
		met[want]++
		if want != api.OK {
			tellsOrdered(t, "changed", s, l, want)
		} else {
			holdOrdered(t, s, l)
		}
	}
	for _, e := range []api.Errno{api.OK, api.ErrFull, api.ErrRange, api.ErrShape, api.ErrClash} {
		if met[e] < 200 {
			t.Errorf("met %v", met)
		}
	}
}
