package view_test

import (
	"slices"
	"testing"

	"whenstead/api"
	"whenstead/plain"
	"whenstead/view"
)

// asked is a deed that was asked for, and what is to be told of it.
type asked struct {
	d     api.Deed
	told  int
	wrong api.Errno
}

// past of a store: all that was ever asked for, which is gone over each time.
type past []asked

// done: the place of a deed of a kind that a transaction did well; or -1.
func (p past) done(kind, tx int) int {
	return slices.IndexFunc(p, func(e asked) bool { return e.wrong == api.OK && e.d.Kind == kind && e.d.Tx == tx })
}

// began, and ended: the places of a Begin, and of a Commit; or -1.
func (p past) began(tx int) int { return p.done(api.Begin, tx) }
func (p past) ended(tx int) int { return p.done(api.Commit, tx) }

// stopped tells whether a transaction was.
func (p past) stopped(tx int) bool {
	return slices.ContainsFunc(p, func(e asked) bool { return e.wrong == api.ErrClash && e.d.Tx == tx })
}

// wrote tells whether a transaction wrote an item.
func (p past) wrote(tx, item int) bool {
	return slices.ContainsFunc(p, func(e asked) bool {
		return e.wrong == api.OK && e.d == api.Deed{Kind: api.Do, Tx: tx, Item: item, Write: 1}
	})
}

// readOthers tells whether a transaction read an item that it had not written itself.
func (p past) readOthers(tx, item int) bool {
	for i, e := range p {
		if e.wrong == api.OK && (e.d == api.Deed{Kind: api.Do, Tx: tx, Item: item}) && !p[:i].wrote(tx, item) {
			return true
		}
	}
	return false
}

// whose writing is read by a transaction that is open.
func (p past) whose(tx, item int) int {
	if p.wrote(tx, item) {
		return tx
	}
	last := -1
	for _, e := range p[:p.began(tx)] {
		if e.wrong == api.OK && e.d.Kind == api.Commit && p.wrote(e.d.Tx, item) {
			last = e.d.Tx
		}
	}
	return last
}

// clashes tells whether another one committed, since a transaction began, what it wrote.
func (p past) clashes(tx int) bool {
	for _, e := range p[p.began(tx):] {
		for item := range 4 {
			if e.wrong == api.OK && e.d.Kind == api.Commit && p.wrote(e.d.Tx, item) && p.wrote(tx, item) {
				return true
			}
		}
	}
	return false
}

// next: what is to be told of a deed behind a past; by what 16.1 says, one by one.
func (p past) next(d api.Deed) asked {
	if d.Kind < 3 || d.Kind > 5 || d.Tx < 0 || d.Tx > 4 {
		return asked{d, 0, api.ErrRange}
	}
	if d.Kind == api.Do && (d.Item < 0 || d.Item > 3 || d.Write != 0 && d.Write != 1) {
		return asked{d, 0, api.ErrRange}
	}
	open := p.began(d.Tx) >= 0 && p.ended(d.Tx) < 0 && !p.stopped(d.Tx)
	switch {
	case d.Kind == api.Begin && p.began(d.Tx) >= 0, d.Kind != api.Begin && !open:
		return asked{d, 0, api.ErrState}
	case d.Kind == api.Commit && p.clashes(d.Tx):
		return asked{d, 0, api.ErrClash}
	case reads(d):
		return asked{d, p.whose(d.Tx, d.Item), api.OK}
	}
	return asked{d, -1, api.OK}
}

// whom: of each two transactions whether one is in a set of the other one.
type whom [5][5]bool

// sets of each.
func (w whom) sets() []int {
	all := make([]int, 5)
	for i := range 5 {
		for j := range 5 {
			if w[i][j] {
				all[i] += 1 << j
			}
		}
	}
	return all
}

// isNext tells whether one of two that committed an item did so next behind the other one.
func (p past) isNext(one, behind, item int) bool {
	for tx := range 5 {
		if p.wrote(tx, item) && p.ended(tx) > p.ended(one) && p.ended(tx) < p.ended(behind) {
			return false
		}
	}
	return p.wrote(one, item) && p.wrote(behind, item) && p.ended(one) < p.ended(behind)
}

// edges behind a past, with how many there are of each kind: written next, read, written over, and of these over.
func (p past) edges() (behind, over whom, kinds [4]int) {
	for i := range 5 {
		for j := range 5 {
			if i == j || p.ended(i) < 0 || p.ended(j) < 0 {
				continue
			}
			for item := range 4 {
				next := p.isNext(i, j, item)
				read := p.wrote(i, item) && p.readOthers(j, item) && p.ended(i) < p.began(j)
				last := p.readOthers(i, item) && p.wrote(j, item) && p.ended(j) > p.began(i)
				both := last && p.began(j) < p.ended(i)
				behind[i][j] = behind[i][j] || next || read || last
				over[i][j] = over[i][j] || both
				for k, is := range []bool{next, read, last, both} {
					if is {
						kinds[k]++
					}
				}
			}
		}
	}
	return behind, over, kinds
}

// allRows of five, the one with the least number where they first differ first.
var allRows = rowsBehind(nil)

// rowsBehind some that stood already.
func rowsBehind(stood []int) [][]int {
	if len(stood) == 5 {
		return [][]int{slices.Clone(stood)}
	}
	var all [][]int
	for tx := range 5 {
		if !slices.Contains(stood, tx) {
			all = append(all, rowsBehind(append(slices.Clone(stood), tx))...)
		}
	}
	return all
}

// isRow tells whether each stands ahead of all that must come behind it.
func (w whom) isRow(row []int) bool {
	for k, j := range row {
		for _, i := range row[k:] {
			if w[i][j] {
				return false
			}
		}
	}
	return true
}

// least row, if there is one; all are tried.
func (w whom) least() []int {
	i := slices.IndexFunc(allRows, w.isRow)
	if i < 0 {
		return nil
	}
	return allRows[i]
}

// danger: whether two steps can be gone.
func (w whom) danger() bool {
	for i := range 5 {
		for j := range 5 {
			for k := range 5 {
				if w[i][j] && w[j][k] {
					return true
				}
			}
		}
	}
	return false
}

// met counts what was told, what kinds of edges there were, and how things stood.
type met struct {
	told  map[string]int
	kinds [4]int
	stood map[string]int
}

func newMet() *met { return &met{told: map[string]int{}, stood: map[string]int{}} }

// some tells whether all that may be met was met so often.
func (m *met) some(t *testing.T, often int, told ...string) {
	t.Helper()
	for _, name := range told {
		if m.told[name] < often {
			t.Errorf("met %v", m.told)
		}
	}
	for _, name := range []string{"row", "row, danger", "none, danger"} {
		if m.stood[name] < often {
			t.Errorf("met %v", m.stood)
		}
	}
	if slices.Min(m.kinds[:]) < often {
		t.Errorf("met %v", m.kinds)
	}
}

// nameOf what was told.
func nameOf(e asked) string {
	switch {
	case e.wrong != api.OK:
		return e.wrong.Error()
	case !reads(e.d):
		return "done"
	case e.told == e.d.Tx:
		return "own"
	case e.told < 0:
		return "nobody's"
	}
	return "another's"
}

// with a deed: the past behind it; the store is to tell the same of it.
func (p past) with(t *testing.T, s *view.Store, d api.Deed, m *met) past {
	t.Helper()
	want := p.next(d)
	if told, err := s.Do(d); told != want.told || plain.Told(err) != want.wrong {
		t.Fatalf("%v behind %v: got %d, %v, want %d, %v", d, p, told, err, want.told, want.wrong)
	}
	m.told[nameOf(want)]++
	return append(slices.Clip(p), want)
}

// hold a store against its past.
func hold(t *testing.T, s *view.Store, p past, m *met) {
	t.Helper()
	committed := 0
	for tx := range 5 {
		if p.ended(tx) >= 0 {
			committed += 1 << tx
		}
	}
	if got := s.Committed(); got != committed {
		t.Fatalf("behind %v: committed %d, want %d", p, got, committed)
	}
	behind, over, kinds := p.edges()
	if b, o := s.Edges(); !slices.Equal(b, behind.sets()) || !slices.Equal(o, over.sets()) {
		t.Fatalf("behind %v: edges %v, %v, want %v, %v", p, b, o, behind.sets(), over.sets())
	}
	row, danger := behind.least(), over.danger()
	if is, l := s.Serial(); is != (row != nil) || !slices.Equal(l, row) {
		t.Fatalf("behind %v: serial %v, %v, want %v", p, is, l, row)
	}
	if got := s.Danger(); got != danger {
		t.Fatalf("behind %v: danger %v", p, got)
	}
	for k, n := range kinds {
		m.kinds[k] += n
	}
	name := "row"
	if row == nil {
		name = "none"
	}
	if danger {
		name += ", danger"
	}
	m.stood[name]++
}

// replayed: a store of which all was asked that a past has.
func (p past) replayed() *view.Store {
	s := view.New()
	for _, e := range p {
		s.Do(e.d)
	}
	return s
}

// everyRow of deeds, up to so many more; each store is held against its past. Behind what was refused, and stopped nobody, it is not gone on: all is as it was.
func everyRow(t *testing.T, some []api.Deed, many int, p past, m *met) {
	for _, d := range some {
		s := p.replayed()
		q := p.with(t, s, d, m)
		if e := q[len(q)-1].wrong; e != api.OK && e != api.ErrClash {
			continue
		}
		hold(t, s, q, m)
		if many > 1 {
			everyRow(t, some, many-1, q, m)
		}
	}
}

// everyNumber that a deed may have, and the next ones.
func everyNumber() []api.Deed {
	var all []api.Deed
	for kind := -1; kind <= 7; kind++ {
		for tx := -1; tx <= 5; tx++ {
			for item := -1; item <= 4; item++ {
				for write := -1; write <= 2; write++ {
					all = append(all, api.Deed{Kind: kind, Tx: tx, Item: item, Write: write})
				}
			}
		}
	}
	return all
}

// TestEveryNumber holds 16.1 at all deeds with all that may be wrong with them, at first, and behind some rows.
func TestEveryNumber(t *testing.T) {
	m := newMet()
	for _, row := range someRows() {
		p, s := past(nil), view.New()
		for _, d := range row {
			p = p.with(t, s, d, m)
			hold(t, s, p, m)
		}
		for _, d := range everyNumber() {
			s := p.replayed()
			hold(t, s, p.with(t, s, d, m), m)
		}
	}
	for _, name := range []string{"done", "another's", "nobody's", "own", "ErrRange", "ErrState", "ErrClash"} {
		if m.told[name] < 4 {
			t.Errorf("met %v", m.told)
		}
	}
}

// TestEveryRow holds 16.1 to 16.3 at all short rows of deeds, of fewer and fewer transactions and items.
func TestEveryRow(t *testing.T) {
	m := newMet()
	for _, x := range []struct{ long, txs, items int }{{3, 5, 4}, {4, 5, 1}, {5, 3, 2}, {6, 3, 1}, {7, 2, 2}, {9, 2, 1}, {9, 1, 2}, {12, 1, 1}} {
		everyRow(t, usual(x.txs, x.items), x.long, nil, m)
	}
	if m.told["ErrState"] < 1000 || m.told["done"] < 1000 || m.told["ErrClash"] < 1000 || m.told["own"] < 1000 || m.told["another's"] < 500 {
		t.Errorf("met %v", m.told)
	}
}

// shuffled: all ways to put rows into one, each of them staying in its order.
func shuffled(rows [][]api.Deed, so []api.Deed, yield func([]api.Deed)) {
	over := true
	for i, row := range rows {
		if len(row) == 0 {
			continue
		}
		over = false
		rows[i] = row[1:]
		shuffled(rows, append(so, row[0]), yield)
		rows[i] = row
	}
	if over {
		yield(so)
	}
}

// everyShuffled: rows of what each of some transactions does between its Begin and its Commit, put into one in all ways; each deed, and how things stand behind all, is held.
func everyShuffled(t *testing.T, txs int, lives []string, m *met) {
	many := 1
	for range txs {
		many *= len(lives)
	}
	for n := range many {
		rows, rest := make([][]api.Deed, txs), n
		for tx := range rows {
			rows[tx] = deeds(namedText("Ab "+lives[rest%len(lives)]+" Ac", tx, 0, 0, 0, 1))
			rest /= len(lives)
		}
		shuffled(rows, nil, func(row []api.Deed) {
			p, s := past(nil), view.New()
			for _, d := range row {
				p = p.with(t, s, d, m)
			}
			hold(t, s, p, m)
		})
	}
}

// TestEveryTwo holds 16.1 to 16.3 at all that two may do with two items, put into one in all ways.
func TestEveryTwo(t *testing.T) {
	m := newMet()
	lives := []string{"", "ArX", "AwX", "ArY", "AwY", "ArX AwX", "AwX ArX", "ArX AwY", "AwX ArY", "ArY AwX", "AwY ArX", "ArX ArY", "AwX AwY", "AwY AwX", "ArX ArY AwX", "ArX ArY AwY", "ArX AwX AwY", "AwX ArX ArY"}
	everyShuffled(t, 2, lives, m)
	if m.stood["row"] < 1000 || m.stood["none, danger"] < 1000 || slices.Min(m.kinds[:]) < 200 {
		t.Errorf("met %v, %v", m.kinds, m.stood)
	}
}

// TestEveryThree holds 16.1 to 16.3 at all that three may do with two items, at most one thing each, put into one in all ways; and at some that do two things each.
func TestEveryThree(t *testing.T) {
	m := newMet()
	everyShuffled(t, 3, []string{"", "ArX", "AwX"}, m)
	everyShuffled(t, 3, []string{"ArX AwY"}, m)
	for _, lives := range [][3]string{{"Ar0 Aw1", "Br1 Bw0", "Dr0 Dw0"}, {"Ar0 Ar1", "Br1 Bw1", "Dw0 Dw1"}, {"Ar0", "Bw0 Br1", "Dw1"}, {"Ar0 Aw0", "Bw0 Br0", "Dr0"}} {
		var rows [][]api.Deed
		for tx, life := range lives {
			name := string("ABD"[tx])
			rows = append(rows, deeds(namedText(name+"b "+life+" "+name+"c", 0, 1, 2, 0, 1)))
		}
		shuffled(rows, nil, func(row []api.Deed) {
			p, s := past(nil), view.New()
			for _, d := range row {
				p = p.with(t, s, d, m)
			}
			hold(t, s, p, m)
		})
	}
	m.some(t, 100, "done", "own", "another's", "nobody's", "ErrClash")
}
