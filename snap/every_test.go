package snap_test

import (
	"fmt"
	"slices"
	"strings"
	"testing"

	"whenstead/api"
	"whenstead/cut"
	"whenstead/plain"
	"whenstead/snap"
	"whenstead/trace"
)

// never is when what still waits came, and when who did not note noted.
const never = 1 << 40

// sent is what was sent on a way, a sum or a mark, and when it was, and when it came.
type sent struct{ what, at, came int }

// past of a bank: all that was ever sent, by which everything is worked out anew.
type past struct {
	start []int
	ways  map[[2]int][]sent // by from and to
	noted []int             // when each noted
	now   int
}

// pastOf a bank at which nothing was done yet.
func pastOf(money []int) *past {
	return &past{slices.Clone(money), map[[2]int][]sent{}, slices.Repeat([]int{never}, len(money)), 0}
}

// moneyAt a time: what it had at first, and what came until then, without what it sent until then.
func (p *past) moneyAt(proc, time int) int {
	much := p.start[proc]
	for way, all := range p.ways {
		for _, s := range all {
			if s.what >= 0 && way[0] == proc && s.at < time {
				much -= s.what
			}
			if s.what >= 0 && way[1] == proc && s.came < time {
				much += s.what
			}
		}
	}
	return much
}

// waits: what was sent on a way and did not come.
func (p *past) waits(from, to int) []int {
	var all []int
	for _, s := range p.ways[[2]int{from, to}] {
		if s.came == never {
			all = append(all, s.what)
		}
	}
	return all
}

// wrong tells what chapter 9 says first is wrong with a move.
func (p *past) wrong(m api.Move) api.Errno {
	n := len(p.start)
	switch {
	case m.Kind != 0 && m.Kind != 1 && m.Kind != 2, m.From < 0, m.From >= n:
		return api.ErrRange
	case m.Kind == 2 && slices.ContainsFunc(p.noted, func(at int) bool { return at != never }):
		return api.ErrState
	case m.Kind == 2:
		return api.OK
	case m.To < 0, m.To >= n:
		return api.ErrRange
	case m.To == m.From:
		return api.ErrClash
	case m.Kind == 1 && len(p.waits(m.From, m.To)) == 0:
		return api.ErrNone
	case m.Kind == 1:
		return api.OK
	case m.Sum < 0, m.Sum > 1000:
		return api.ErrRange
	case m.Sum > p.moneyAt(m.From, never):
		return api.ErrNone
	case len(p.waits(m.From, m.To)) >= 8:
		return api.ErrFull
	}
	return api.OK
}

// note, and send a mark to each other one.
func (p *past) note(proc int) {
	p.noted[proc] = p.now
	for to := range p.start {
		if to != proc {
			way := [2]int{proc, to}
			p.ways[way] = append(p.ways[way], sent{-1, p.now, never})
		}
	}
}

// do a move in which nothing is wrong.
func (p *past) do(m api.Move) {
	way := [2]int{m.From, m.To}
	switch p.now++; m.Kind {
	case 0:
		p.ways[way] = append(p.ways[way], sent{m.Sum, p.now, never})
	case 1:
		first := slices.IndexFunc(p.ways[way], func(s sent) bool { return s.came == never })
		p.ways[way][first].came = p.now
		if p.ways[way][first].what == -1 && p.noted[m.To] == never {
			p.note(m.To)
		}
	case 2:
		p.note(m.From)
	}
}

// onWay: what is to be noted as having been on a way: what came behind the note, and was sent ahead of the mark.
func (p *past) onWay(from, to int) (much int, marked bool) {
	for _, s := range p.ways[[2]int{from, to}] {
		if s.what == -1 {
			return much, s.came != never
		}
		if s.came != never && s.came > p.noted[to] {
			much += s.what
		}
	}
	return 0, false
}

// notedText: what Noted is to tell.
func (p *past) notedText() string {
	money, ways := make([]int, len(p.start)), make([][]int, len(p.start))
	for to := range p.start {
		if p.noted[to] == never {
			return "no"
		}
		money[to], ways[to] = p.moneyAt(to, p.noted[to]), make([]int, len(p.start))
		for from := range p.start {
			much, marked := p.onWay(from, to)
			if from != to && !marked {
				return "no"
			}
			ways[to][from] = much
		}
	}
	return fmt.Sprint(money, ways, true)
}

// text of all that can be asked.
func (p *past) text() string {
	money := make([]int, len(p.start))
	var ways []string
	for from := range p.start {
		money[from] = p.moneyAt(from, never)
		for to := range p.start {
			if w := p.waits(from, to); len(w) > 0 {
				ways = append(ways, fmt.Sprintf("%d>%d%v", from, to, w))
			}
		}
	}
	return fmt.Sprint(money, " ", strings.Join(ways, " "), " ", p.notedText())
}

// sumOf numbers.
func sumOf(l []int) int {
	sum := 0
	for _, x := range l {
		sum += x
	}
	return sum
}

// holdMoney: all money there is, with what is on all ways, is what there was; and so is what was noted, if all was.
func holdMoney(t *testing.T, b *snap.Bank, all int) {
	t.Helper()
	sum := sumOf(b.Money())
	for from := range b.Money() {
		for to := range b.Money() {
			for _, what := range b.Way(from, to) {
				sum += max(what, 0)
			}
		}
	}
	if sum != all {
		t.Fatalf("%s: there is %d, and was %d", stateOf(b), sum, all)
	}
	money, ways, is := b.Noted()
	if !is {
		return
	}
	sum = sumOf(money)
	for to, w := range ways {
		sum += sumOf(w)
		if w[to] != 0 {
			t.Fatalf("%s: from %d itself: %v", stateOf(b), to, w)
		}
	}
	if sum != all {
		t.Fatalf("%s: %d was noted, and there was %d", stateOf(b), sum, all)
	}
}

// holdCut: who noted did so along a whole cut, by chapter 8: no sum came ahead of a note that was paid behind one.
func holdCut(t *testing.T, p *past) {
	t.Helper()
	tr, whole := api.Trace{Procs: len(p.start)}, make([]int, len(p.start))
	paid := map[[2]int][]int{} // the events at which sums were paid that wait, by way
	for time := 1; time <= p.now; time++ {
		for way, all := range p.ways {
			for _, s := range all {
				if s.what < 0 || s.at != time && s.came != time || len(tr.Events) == api.MaxEvents {
					continue
				}
				e := api.Event{Proc: way[0], From: -1}
				if s.at == time {
					paid[way] = append(paid[way], len(tr.Events))
				} else {
					e = api.Event{Proc: way[1], From: paid[way][0]}
					paid[way] = paid[way][1:]
				}
				if time < p.noted[e.Proc] {
					whole[e.Proc]++
				}
				tr.Events = append(tr.Events, e)
			}
		}
	}
	if err := trace.Check(tr); err != nil {
		t.Fatal(tr, err)
	}
	if is, err := cut.Is(tr, whole); !is || err != nil {
		t.Fatalf("%v noted at %v: a cut that is not whole: %v, %v", p.ways, whole, is, err)
	}
}

// hold a bank against its past.
func hold(t *testing.T, b *snap.Bank, p *past, moves []api.Move) {
	t.Helper()
	if got, want := stateOf(b), p.text(); got != want {
		t.Fatalf("%v, behind %v: got %s, want %s", p.start, moves, got, want)
	}
	holdMoney(t, b, sumOf(p.start))
}

// play a row of moves at a new bank and at its past, and hold what each move tells.
func play(t *testing.T, money []int, moves []api.Move) (*snap.Bank, *past) {
	t.Helper()
	b, p := bankOf(t, money), pastOf(money)
	for i, m := range moves {
		both(t, b, p, m, moves[:i])
	}
	return b, p
}

// both do a move, at a bank and at its past.
func both(t *testing.T, b *snap.Bank, p *past, m api.Move, behind []api.Move) api.Errno {
	t.Helper()
	want := p.wrong(m)
	if err := b.Do(m); plain.Told(err) != want {
		t.Fatalf("%v, behind %v: %v: got %v, want %v", p.start, behind, m, err, want)
	}
	if want == api.OK {
		p.do(m)
	}
	return want
}

// everyMove of n processes and the next ones, with sums up to most and the next ones.
func everyMove(n, most int) []api.Move {
	var all []api.Move
	for kind := -1; kind <= 3; kind++ {
		for from := -1; from <= n; from++ {
			for to := -1; to <= n; to++ {
				for sum := -1; sum <= most+1; sum++ {
					all = append(all, api.Move{Kind: kind, From: from, To: to, Sum: sum})
				}
			}
		}
	}
	return all
}

// TestEveryTwoMoves holds 9.1 to 9.3 at all rows of two moves, with all that may be wrong with them.
func TestEveryTwoMoves(t *testing.T) {
	for _, money := range [][]int{has(0), has(2), has(1, 1), has(0, 2)} {
		moves := everyMove(len(money), 2)
		for _, one := range moves {
			b, p := play(t, money, []api.Move{one})
			hold(t, b, p, []api.Move{one})
			for _, two := range moves {
				row := []api.Move{one, two}
				b, p := play(t, money, row)
				hold(t, b, p, row)
			}
		}
	}
}

// usual moves of n processes: sums from 0 to most, and nothing of what is wrong with every bank.
func usual(n, most int) []api.Move {
	var all []api.Move
	for from := range n {
		all = append(all, mark(from))
		for to := range n {
			if from == to {
				continue
			}
			all = append(all, come(from, to))
			for sum := range most + 1 {
				all = append(all, pay(from, to, sum))
			}
		}
	}
	return all
}

// everyRow of moves that are done, up to so many, each held against its past; at each end all usual moves that are refused are tried.
func everyRow(t *testing.T, money []int, moves, row []api.Move, many int, met map[string]int) {
	b, p := play(t, money, row)
	hold(t, b, p, row)
	holdCut(t, p)
	met[notedOf(b)]++
	if many == 0 {
		return
	}
	for _, m := range moves {
		if p.wrong(m) == api.OK {
			everyRow(t, money, moves, append(slices.Clip(row), m), many-1, met)
			continue
		}
		both(t, b, p, m, row)
		hold(t, b, p, row)
	}
}

// TestEveryRow holds 9.1 to 9.3 at all rows of some moves that are done, at small banks.
func TestEveryRow(t *testing.T) {
	for _, x := range []struct {
		money []int
		most  int
		many  int
		ends  int // how many ends of all noted there are at least
	}{
		{has(3), 3, 3, 1},
		{has(1, 1), 1, 7, 4},
		{has(2, 0), 2, 6, 3},
		{has(1, 2), 1, 6, 4},
		{has(1, 0, 1), 1, 4, 1},
	} {
		met := map[string]int{}
		everyRow(t, x.money, usual(len(x.money), x.most), nil, x.many, met)
		if len(met) < x.ends {
			t.Errorf("%v: only %v met", x.money, met)
		}
	}
}

// TestEveryOrder holds 9.2 and 9.3: three processes, some sums on the way, somebody notes; all orders in which all that waits comes.
func TestEveryOrder(t *testing.T) {
	for first := range 3 {
		met := map[string]int{}
		for _, paid := range [][]api.Move{nil, {pay(0, 1, 1), pay(2, 1, 2)}, {pay(1, 0, 1), pay(1, 0, 2)}} {
			row := append(slices.Clone(paid), mark(first))
			everyCome(t, has(3, 3, 3), row, met)
		}
		if len(met) < 4 || met["no"] == 0 {
			t.Errorf("%d first: only %v met", first, met)
		}
	}
}

// everyCome: all orders in which all that waits comes; each bank is held against its past.
func everyCome(t *testing.T, money []int, row []api.Move, met map[string]int) {
	b, p := play(t, money, row)
	hold(t, b, p, row)
	met[notedOf(b)]++
	for from := range money {
		for to := range money {
			if m := come(from, to); p.wrong(m) == api.OK {
				everyCome(t, money, append(slices.Clip(row), m), met)
			}
		}
	}
}
