package lock_test

import (
	"errors"
	"fmt"
	"math"
	"slices"
	"strings"
	"testing"

	"whenstead/api"
	"whenstead/lock"
	"whenstead/plain"
)

// wildNumbers: such as may be, and such as may not.
func wildNumbers() []int {
	return []int{0, 1, 2, 3, 4, 5, 6, 24, 63, 64, -1, -2, -64, math.MinInt, math.MaxInt, 1 << 32, 1 << 62}
}

// TestAnythingGoes holds P1: no call panics; and P3: an error is a number that has a name, not OK.
func TestAnythingGoes(t *testing.T) {
	may := []api.Errno{api.ErrRange, api.ErrFull, api.ErrNone, api.ErrClash, api.ErrState}
	for _, row := range someRows() {
		x := played(row)
		for _, kind := range wildNumbers() {
			for _, tx := range wildNumbers() {
				for _, item := range wildNumbers() {
					for _, write := range wildNumbers() {
						d := api.Deed{Kind: kind, Tx: tx, Item: item, Write: write}
						if err := x.Do(d); err != nil && !slices.Contains(may, plain.Told(err)) {
							t.Fatalf("%v: got %v", d, err)
						}
					}
				}
				if got := len(x.Acts()); got > 24 {
					t.Fatalf("%d acts", got)
				}
				if got := len(x.Waits()); got != 5 {
					t.Fatalf("of %d", got)
				}
				if got := x.Stuck(); got < 0 || got > 31 {
					t.Fatalf("stuck %d", got)
				}
			}
		}
	}
}

// TestNumbers holds P3: the errors that chapter 14 tells have the numbers that the document names.
func TestNumbers(t *testing.T) {
	var e api.Errno
	for _, x := range []struct {
		row  []api.Deed
		d    api.Deed
		want api.Errno
	}{
		{nil, api.Deed{Kind: 4}, 1},
		{nil, api.Deed{Kind: 2}, 5},
		{nil, api.Deed{Kind: 3}, 5},
		{deeds("1o0"), api.Deed{Kind: 0}, 6},
		{deeds("1s0"), api.Deed{Kind: 1}, 6},
		{deeds("0s0 0f0"), api.Deed{Kind: 0}, 7},
		{fullRow(1), api.Deed{Kind: 3}, 4},
	} {
		if err := played(x.row).Do(x.d); !errors.As(err, &e) || e != x.want {
			t.Errorf("%v: got %v, want %v", x.d, err, x.want)
		}
	}
}

// busy does all kinds of deeds at a table, and asks all that can be asked.
func busy(x *lock.Table) string {
	s := ""
	for _, text := range []string{"asx", "aox", "arx bsy", "awx ary", "boy", "afy bwx"} {
		for a := range 5 {
			for _, d := range named(text, a, (a+1)%5, a%4, (a+2)%4) {
				s += fmt.Sprintln(d, plain.Told(x.Do(d)), stateOf(x))
			}
		}
	}
	return s
}

// TestTablesApart holds P2: what is done at one table changes no other one, and two at which the same is done tell the same.
func TestTablesApart(t *testing.T) {
	for _, row := range someRows() {
		one, two := played(row), played(row)
		want := stateOf(two)
		first := busy(one)
		if got := stateOf(two); got != want {
			t.Errorf("%s became %s", want, got)
		}
		if got := busy(two); got != first {
			t.Errorf("got %s, want %s", got, first)
		}
		if got := stateOf(lock.New()); got != "; ; " {
			t.Errorf("a new one: %s", got)
		}
	}
}

// TestAskingChangesNothing holds P2: what is told stays the same, however often it is asked for, and later deeds tell what they would have told without that.
func TestAskingChangesNothing(t *testing.T) {
	for _, row := range someRows() {
		x := played(row)
		want := stateOf(x)
		for range 3 {
			if got := stateOf(x); got != want {
				t.Fatalf("%s became %s", want, got)
			}
		}
		y := lock.New()
		for _, d := range row {
			y.Stuck()
			y.Waits()
			y.Do(d)
			y.Acts()
		}
		if got, want := busy(y), busy(x); got != want {
			t.Errorf("got %s, want %s", got, want)
		}
	}
}

// scribble over lists, and over the memory behind their ends.
func scribble(acts []api.Act, waits []int) {
	acts, waits = acts[:cap(acts)], waits[:cap(waits)]
	for i := range acts {
		acts[i] = api.Act{Tx: -7, Item: -7, Write: -7}
	}
	for i := range waits {
		waits[i] = -7
	}
}

// TestAnswersAreFresh holds P2: who writes all over what a table told writes into no other answer, nor into the table.
func TestAnswersAreFresh(t *testing.T) {
	for _, w := range allWorked() {
		x, y := lock.New(), lock.New()
		for _, b := range w.steps {
			wantActs, wantWaits := slices.Clone(y.Acts()), slices.Clone(y.Waits())
			acts, waits := x.Acts(), x.Waits()
			scribble(x.Acts(), x.Waits())
			if !slices.Equal(acts, wantActs) || !slices.Equal(waits, wantWaits) {
				t.Fatalf("%s, ahead of %s: became %v, %v, want %v, %v", w.name, b.deed, acts, waits, wantActs, wantWaits)
			}
			scribble(acts, waits)
			if got, want := plain.Told(x.Do(deed(b.deed))), plain.Told(y.Do(deed(b.deed))); got != want {
				t.Fatalf("%s, %s: got %v, want %v", w.name, b.deed, got, want)
			}
			if got, want := stateOf(x), stateOf(y); got != want {
				t.Fatalf("%s, behind %s: %s became %s", w.name, b.deed, want, got)
			}
		}
		if got, want := busy(x), busy(y); got != want {
			t.Fatalf("%s: got %s, want %s", w.name, got, want)
		}
	}
}

// TestLaterDeedsDoNotShow holds P2: what a table told stays as it is, whatever is done later; and what is put behind it shows in no other answer.
func TestLaterDeedsDoNotShow(t *testing.T) {
	x := tableOf(t, deeds("0o0 0s1 1s1"))
	var told [][]api.Act
	for i := range 24 {
		x.Do(deed([]string{"0w0", "1r1", "0r1"}[i%3]))
		x.Do(deed([]string{"0o1", "1o0", "1s2"}[i%3]))
		acts := x.Acts()
		_ = append(acts, api.Act{Tx: -7})
		told = append(told, acts)
	}
	waits := x.Waits()
	before := slices.Clone(waits)
	busy(x)
	if !slices.Equal(waits, before) {
		t.Errorf("%v became %v", before, waits)
	}
	all := x.Acts()
	if want := strings.TrimSpace(strings.Repeat("0w0 1r1 0r1 ", 8)); actsOf(x) != want {
		t.Errorf("got %s, want %s", actsOf(x), want)
	}
	for i, acts := range told {
		if !slices.Equal(acts, all[:i+1]) {
			t.Errorf("behind act %d: became %v", i, acts)
		}
	}
}

// TestDeedsStay holds P2: what is handed in is not changed, and a table stays as it is when that changes later.
func TestDeedsStay(t *testing.T) {
	for _, row := range someRows() {
		same := slices.Clone(row)
		x := played(row)
		if !slices.Equal(row, same) {
			t.Errorf("%v became %v", same, row)
		}
		want := stateOf(x)
		for i := range row {
			row[i] = api.Deed{Kind: -7, Tx: -7, Item: -7, Write: -7}
		}
		if got := stateOf(x); got != want {
			t.Errorf("%s became %s", want, got)
		}
		if got, want := busy(x), busy(played(same)); got != want {
			t.Errorf("got %s, want %s", got, want)
		}
	}
}
