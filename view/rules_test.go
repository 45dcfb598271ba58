package view_test

import (
	"errors"
	"math"
	"slices"
	"testing"

	"whenstead/api"
	"whenstead/plain"
	"whenstead/view"
)

// wildNumbers: such as may be, and such as may not.
func wildNumbers() []int {
	return []int{0, 1, 2, 3, 4, 5, 6, 63, 64, -1, -2, -64, math.MinInt, math.MaxInt, 1 << 32, 1 << 62}
}

// TestAnythingGoes holds P1: no call panics, nothing is told with an error, and what is told else is a transaction or nobody; and P3: an error is a number that has a name, not OK.
func TestAnythingGoes(t *testing.T) {
	may := []api.Errno{api.ErrRange, api.ErrClash, api.ErrState}
	for _, row := range someRows() {
		s := played(row)
		for _, tx := range wildNumbers() {
			for _, item := range wildNumbers() {
				for _, write := range wildNumbers() {
					for _, kind := range wildNumbers() {
						d := api.Deed{Kind: kind, Tx: tx, Item: item, Write: write}
						told, err := s.Do(d)
						if err != nil && (told != 0 || !slices.Contains(may, plain.Told(err))) || told < -1 || told > 4 {
							t.Fatalf("%v: got %d, %v", d, told, err)
						}
					}
				}
			}
			behind, over := s.Edges()
			is, l := s.Serial()
			if s.Committed() < 0 || s.Committed() > 31 || len(behind) != 5 || len(over) != 5 || is != (len(l) == 5) || !is && l != nil {
				t.Fatalf("behind %v: %v, %v, %v, %v", row, behind, over, is, l)
			}
			s.Danger()
		}
	}
}

// TestNumbers holds P3: the errors that chapter 16 tells have the numbers that the document names.
func TestNumbers(t *testing.T) {
	var e api.Errno
	for _, x := range []struct {
		text string
		d    api.Deed
		want api.Errno
	}{
		{"", api.Deed{Kind: 2}, 1},
		{"", api.Deed{Kind: 6}, 1},
		{"", api.Deed{Kind: 4, Tx: 5}, 1},
		{"0b", api.Deed{Kind: 3, Item: 4}, 1},
		{"0b", api.Deed{Kind: 3, Write: 2}, 1},
		{"0b 1b 0w0 1w0 1c", api.Deed{Kind: 5}, 6},
		{"0b", api.Deed{Kind: 4}, 7},
		{"", api.Deed{Kind: 3}, 7},
		{"", api.Deed{Kind: 5}, 7},
	} {
		if told, err := played(deeds(x.text)).Do(x.d); !errors.As(err, &e) || e != x.want || told != 0 {
			t.Errorf("%v: got %d, %v, want %v", x.d, told, err, x.want)
		}
	}
}

// busyRow of deeds of all kinds.
func busyRow() []api.Deed {
	return deeds("0b 1b 2b 0r0 0r1 1r1 1w2 2w1 0w3 2r3 1c 3b 3r2 3w2 3w0 2c 4b 4r1 4w0 4r0 0r3 0r2 3c 4c 0w1 0c 0c 1b 2r0 3w3")
}

// TestStoresApart holds P2: what is done in one store changes no other one, and two in which the same is done tell the same.
func TestStoresApart(t *testing.T) {
	for _, row := range someRows() {
		one, two := played(row), played(row)
		want := stateOf(two)
		first := answersOf(one, busyRow())
		if got := stateOf(two); got != want {
			t.Errorf("%s became %s", want, got)
		}
		if got := answersOf(two, busyRow()); got != first {
			t.Errorf("got %s, want %s", got, first)
		}
		if got := stateOf(view.New()); got != "; ; 01234" {
			t.Errorf("a new one: %s", got)
		}
	}
}

// TestInTurns holds P2: two stores go each as it goes alone, if deeds are done in both in turns.
func TestInTurns(t *testing.T) {
	for _, row := range someRows() {
		one, two, other := view.New(), view.New(), busyRow()
		want, wantOther := answersOf(view.New(), row), answersOf(view.New(), other)
		for i := range max(len(row), len(other)) {
			if i < len(row) {
				one.Do(row[i])
			}
			if i < len(other) {
				two.Do(other[i])
			}
		}
		if got := stateOf(one); got != want[len(want)-len(got):] {
			t.Errorf("got %s, want %s", got, want)
		}
		if got := stateOf(two); got != wantOther[len(wantOther)-len(got):] {
			t.Errorf("got %s, want %s", got, wantOther)
		}
	}
}

// TestAskingChangesNothing holds P2: what is told stays the same, however often it is asked for, and later deeds go as they would have gone without that.
func TestAskingChangesNothing(t *testing.T) {
	for _, row := range append(someRows(), busyRow()) {
		s := played(row)
		want := stateOf(s)
		for range 3 {
			if got := stateOf(s); got != want {
				t.Fatalf("%s became %s", want, got)
			}
		}
		asked := view.New()
		for _, d := range row {
			stateOf(asked)
			asked.Do(d)
		}
		if got, want := answersOf(asked, busyRow()), answersOf(s, busyRow()); got != want {
			t.Errorf("got %s, want %s", got, want)
		}
	}
}

// scribble over a list, and over the memory behind its end.
func scribble(l []int) {
	l = l[:cap(l)]
	for i := range l {
		l[i] = 21 + i
	}
}

// lists of a store: all that it tells.
func lists(s *view.Store) [][]int {
	behind, over := s.Edges()
	_, row := s.Serial()
	return [][]int{behind, over, row}
}

// TestAnswersAreFresh holds P2: who writes all over what a store told writes into no other answer, nor into the store.
func TestAnswersAreFresh(t *testing.T) {
	for _, row := range append(someRows(), busyRow()) {
		s, same := view.New(), view.New()
		for _, d := range row {
			want := lists(same)
			for k := range want {
				all, again := lists(s), lists(s)
				scribble(all[k])
				for i, l := range all {
					if i != k && !slices.Equal(l, want[i]) || !slices.Equal(again[i], want[i]) {
						t.Fatalf("%v, ahead of %v: list %d became %v, %v, want %v", row, d, i, l, again[i], want[i])
					}
				}
			}
			told, err := s.Do(d)
			wantTold, wantErr := same.Do(d)
			if told != wantTold || plain.Told(err) != plain.Told(wantErr) || stateOf(s) != stateOf(same) {
				t.Fatalf("%v, behind %v: got %d, %v, %s, want %d, %v, %s", row, d, told, err, stateOf(s), wantTold, wantErr, stateOf(same))
			}
		}
		if got, want := answersOf(s, busyRow()), answersOf(same, busyRow()); got != want {
			t.Fatalf("%v: got %s, want %s", row, got, want)
		}
	}
}

// TestLaterDeedsDoNotShow holds P2: what a store told stays as it is, whatever is done later; and what is put behind it shows in no other answer.
func TestLaterDeedsDoNotShow(t *testing.T) {
	for _, row := range append(someRows(), busyRow()) {
		s := view.New()
		var told, want [][]int
		for _, d := range row {
			for _, l := range lists(s) {
				_ = append(l, -7)
				told, want = append(told, l), append(want, slices.Clone(l))
			}
			s.Do(d)
		}
		answersOf(s, busyRow())
		for i := range told {
			if !slices.Equal(told[i], want[i]) {
				t.Fatalf("%v: list %d became %v, was %v", row, i, told[i], want[i])
			}
		}
	}
}

// TestRowsStay holds P2: what is handed in is not changed, and a store stays as it is when that changes later.
func TestRowsStay(t *testing.T) {
	for _, row := range append(someRows(), busyRow()) {
		same := slices.Clone(row)
		s := played(row)
		if !slices.Equal(row, same) {
			t.Errorf("%v became %v", same, row)
		}
		want := stateOf(s)
		for i := range row {
			row[i] = api.Deed{Kind: 7, Tx: 9, Item: 9, Write: 9}
		}
		if got := stateOf(s); got != want {
			t.Errorf("%s became %s", want, got)
		}
		if got, want := answersOf(s, busyRow()), answersOf(played(same), busyRow()); got != want {
			t.Errorf("got %s, want %s", got, want)
		}
	}
}
