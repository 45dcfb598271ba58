package prior_test

import (
	"errors"
	"fmt"
	"math"
	"slices"
	"strings"
	"testing"

	"whenstead/api"
	"whenstead/plain"
	"whenstead/prior"
)

// wildNumbers: such as may be, and such as may not.
func wildNumbers() []int {
	return []int{0, 1, 2, 3, 4, 5, 6, 24, 63, 64, -1, -2, -64, math.MinInt, math.MaxInt, 1 << 32, 1 << 62}
}

// TestAnythingGoes holds P1: no call panics, and nothing is done with an error; and P3: an error is a number that has a name, not OK.
func TestAnythingGoes(t *testing.T) {
	may := []api.Errno{api.ErrRange, api.ErrFull, api.ErrClash, api.ErrState}
	for _, skips := range []bool{true, false} {
		for _, row := range someRows() {
			g := played(skips, row)
			for _, tx := range wildNumbers() {
				for _, item := range wildNumbers() {
					for _, write := range wildNumbers() {
						a := api.Act{Tx: tx, Item: item, Write: write}
						if is, err := g.Do(a); err != nil && (is || !slices.Contains(may, plain.Told(err))) {
							t.Fatalf("%v: got %v, %v", a, is, err)
						}
						if n, dead := len(g.Acts()), g.Dead(); n > 24 || dead < 0 || dead > 15 {
							t.Fatalf("behind %v: %d acts, dead %d", a, n, dead)
						}
					}
				}
			}
		}
	}
}

// TestNumbers holds P3: the errors that chapter 15 tells have the numbers that the document names.
func TestNumbers(t *testing.T) {
	var e api.Errno
	for _, x := range []struct {
		row  []api.Act
		a    api.Act
		want api.Errno
	}{
		{nil, api.Act{Tx: 5}, 1},
		{nil, api.Act{Item: 4}, 1},
		{nil, api.Act{Write: 2}, 1},
		{fullRow(5), api.Act{}, 4},
		{acts("1w0"), api.Act{}, 6},
		{acts("1w0 0r0"), api.Act{}, 7},
	} {
		for _, skips := range []bool{true, false} {
			if _, err := played(skips, x.row).Do(x.a); !errors.As(err, &e) || e != x.want {
				t.Errorf("%v: got %v, want %v", x.a, err, x.want)
			}
		}
	}
}

// busy asks for all kinds of acts at a gate, and asks all that can be asked.
func busy(g *prior.Gate) string {
	s := ""
	for _, text := range []string{"arx bwx", "ary bwy arx", "awx", "brx awx", "bwy", "awy bry ary"} {
		for b := range 5 {
			for _, a := range named(text, (b+3)%5, b, b%4, (b+2)%4) {
				is, err := g.Do(a)
				s += fmt.Sprintln(wordOf(a), is, plain.Told(err), stateOf(g))
			}
		}
	}
	return s
}

// TestGatesApart holds P2: what is done at one gate changes no other one, and two at which the same is done tell the same.
func TestGatesApart(t *testing.T) {
	for _, skips := range []bool{true, false} {
		for _, row := range someRows() {
			one, two, other := played(skips, row), played(skips, row), played(!skips, row)
			want, wantOther := stateOf(two), stateOf(other)
			first := busy(one)
			if stateOf(two) != want || stateOf(other) != wantOther {
				t.Errorf("%s, %s became %s, %s", want, wantOther, stateOf(two), stateOf(other))
			}
			busy(other)
			if got := busy(two); got != first {
				t.Errorf("got %s, want %s", got, first)
			}
			if got := stateOf(prior.New(skips)); got != "; " {
				t.Errorf("a new one: %s", got)
			}
		}
	}
}

// TestInTurns holds P2: two gates, one that skips and one that doesn't, go each as it goes alone, if each act is asked for at both in turns.
func TestInTurns(t *testing.T) {
	for _, x := range workedApart() {
		one, other := prior.New(true), prior.New(false)
		words, others := strings.Fields(x[0]), strings.Fields(x[1])
		for i := range words {
			is, err := one.Do(act(words[i]))
			isOther, errOther := other.Do(act(others[i]))
			if markOf(is, err) != words[i][3:] || markOf(isOther, errOther) != others[i][3:] {
				t.Errorf("%s, %s, act %d: got %v, %v, and %v, %v", x[0], x[1], i, is, err, isOther, errOther)
			}
		}
	}
}

// TestAskingChangesNothing holds P2: what is told stays the same, however often it is asked for, and later acts go as they would have gone without that.
func TestAskingChangesNothing(t *testing.T) {
	for _, skips := range []bool{true, false} {
		for _, row := range someRows() {
			g := played(skips, row)
			want := stateOf(g)
			for range 3 {
				if got := stateOf(g); got != want {
					t.Fatalf("%s became %s", want, got)
				}
			}
			asked := prior.New(skips)
			for _, a := range row {
				asked.Dead()
				asked.Do(a)
				asked.Acts()
			}
			if got, want := busy(asked), busy(g); got != want {
				t.Errorf("got %s, want %s", got, want)
			}
		}
	}
}

// scribble over a list, and over the memory behind its end.
func scribble(row []api.Act) {
	row = row[:cap(row)]
	for i := range row {
		row[i] = api.Act{Tx: 4, Item: i % 4, Write: i % 2}
	}
}

// TestAnswersAreFresh holds P2: who writes all over what a gate told writes into no other answer, nor into the gate.
func TestAnswersAreFresh(t *testing.T) {
	for _, skips := range []bool{true, false} {
		for _, row := range append(someRows(), acts("0r0 1r1 2r2 3r3 0w0 1w1 2w2 3w3 4r1 4w0 0r2 2w1 1w3")) {
			g, same := prior.New(skips), prior.New(skips)
			for _, a := range row {
				want, all := slices.Clone(same.Acts()), g.Acts()
				scribble(g.Acts())
				if !slices.Equal(all, want) {
					t.Fatalf("skips %v, %v, ahead of %v: became %v, want %v", skips, row, a, all, want)
				}
				scribble(all)
				is, err := g.Do(a)
				wantIs, wantErr := same.Do(a)
				if is != wantIs || plain.Told(err) != plain.Told(wantErr) || stateOf(g) != stateOf(same) {
					t.Fatalf("skips %v, %v, behind %v: got %v, %v, %s, want %v, %v, %s", skips, row, a, is, err, stateOf(g), wantIs, wantErr, stateOf(same))
				}
			}
			if got, want := busy(g), busy(same); got != want {
				t.Fatalf("skips %v, %v: got %s, want %s", skips, row, got, want)
			}
		}
	}
}

// TestLaterActsDoNotShow holds P2: what a gate told stays as it is, whatever is done later; and what is put behind it shows in no other answer.
func TestLaterActsDoNotShow(t *testing.T) {
	for _, skips := range []bool{true, false} {
		g := prior.New(skips)
		var told [][]api.Act
		for _, a := range fullRow(4) {
			g.Do(a)
			g.Do(api.Act{Tx: 0, Item: a.Item, Write: a.Write})
			all := g.Acts()
			_ = append(all, api.Act{Tx: -7})
			told = append(told, all)
		}
		busy(g)
		all := g.Acts()
		if len(all) != 24 {
			t.Fatalf("got %v", all)
		}
		for i, some := range told {
			if len(some) < i+1 || !slices.Equal(some, all[:len(some)]) {
				t.Errorf("behind act %d: became %v", i, some)
			}
		}
	}
}

// TestRowsStay holds P2: what is handed in is not changed, and a gate stays as it is when that changes later.
func TestRowsStay(t *testing.T) {
	for _, skips := range []bool{true, false} {
		for _, row := range someRows() {
			same := slices.Clone(row)
			g := played(skips, row)
			if !slices.Equal(row, same) {
				t.Errorf("%v became %v", same, row)
			}
			want := stateOf(g)
			scribble(row)
			if got := stateOf(g); got != want {
				t.Errorf("%s became %s", want, got)
			}
			if got, want := busy(g), busy(played(skips, same)); got != want {
				t.Errorf("got %s, want %s", got, want)
			}
		}
	}
}
