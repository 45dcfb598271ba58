package order_test

import (
	"math"
	"slices"
	"testing"

	"whenstead/api"
	"whenstead/order"
	"whenstead/plain"
)

// row of n things, each of which has just the next one told behind it.
func row(n int) []int {
	r := make([]int, n)
	for i := range n - 1 {
		r[i] = 1 << (i + 1)
	}
	return r
}

// ring of n things: the first stands behind the last, too.
func ring(n int) []int {
	r := row(n)
	r[n-1] |= 1
	return r
}

// TestCheck holds 1.1: what is no order, and which fault is told first.
func TestCheck(t *testing.T) {
	badAnd := func(n, bad int) []int {
		r := ring(n)
		r[n-1] = bad
		return r
	}
	for _, c := range []struct {
		name string
		r    []int
		want api.Errno
	}{
		{"nil", nil, api.OK},
		{"empty", []int{}, api.OK},
		{"one thing", []int{0}, api.OK},
		{"side by side", []int{0, 0, 0}, api.OK},
		{"row", row(5), api.OK},
		{"told twice over", []int{6, 4, 0}, api.OK},
		{"two ways", []int{6, 8, 8, 0}, api.OK},
		{"as many as may be", row(api.MaxThings), api.OK},
		{"one more", row(api.MaxThings + 1), api.ErrFull},
		{"one more, side by side", make([]int, api.MaxThings+1), api.ErrFull},
		{"many more", make([]int, 1<<20), api.ErrFull},

		{"all others behind", []int{14, 0, 0, 0}, api.OK},
		{"all others behind, of most", append([]int{1<<api.MaxThings - 2}, make([]int, api.MaxThings-1)...), api.OK},
		{"the last behind, of most", append([]int{1 << (api.MaxThings - 1)}, make([]int, api.MaxThings-1)...), api.OK},
		{"a thing too many", []int{16, 0, 0, 0}, api.ErrRange},
		{"a thing too many, in the last row", []int{0, 0, 0, 16}, api.ErrRange},
		{"a thing too many, beside others", []int{22, 0, 0, 0}, api.ErrRange},
		{"a thing too many, of most", append([]int{1 << api.MaxThings}, make([]int, api.MaxThings-1)...), api.ErrRange},
		{"a thing too many, of one", []int{2}, api.ErrRange},
		{"below 0", []int{0, -1}, api.ErrRange},
		{"below 0, low bits clear", []int{0, -4}, api.ErrRange},
		{"least number", []int{math.MinInt, 0}, api.ErrRange},
		{"greatest number", []int{0, math.MaxInt}, api.ErrRange},

		{"itself at once", []int{1}, api.ErrClash},
		{"itself at once, the last", []int{0, 0, 4}, api.ErrClash},
		{"all behind, itself too", []int{15, 0, 0, 0}, api.ErrClash},
		{"itself over one", []int{2, 1}, api.ErrClash},
		{"itself over two", ring(3), api.ErrClash},
		{"itself over all of most", ring(api.MaxThings), api.ErrClash},
		{"ring that others lead to", []int{2, 4, 8, 4}, api.ErrClash},
		{"ring that leads to others", []int{0, 5, 2}, api.ErrClash},

		{"too many, too great, ring", badAnd(api.MaxThings+1, 1<<(api.MaxThings+1)), api.ErrFull},
		{"too many, below 0", badAnd(api.MaxThings+1, -1), api.ErrFull},
		{"too many, ring", ring(api.MaxThings + 1), api.ErrFull},
		{"ring, then a thing too many", []int{2, 1, 8}, api.ErrRange},
		{"itself, then below 0", []int{1, -1}, api.ErrRange},
		{"itself, in the row that has a thing too many", []int{5, 0}, api.ErrRange},
	} {
		if got := plain.Told(order.Check(c.r)); got != c.want {
			t.Errorf("%s: got %v, want %v", c.name, got, c.want)
		}
		allTell(t, c.name, c.r, c.want)
	}
}

// allTell asks every call what it tells of an order of which Check tells want; no thing is asked for, so that a later fault applies, too.
func allTell(t *testing.T, name string, r []int, want api.Errno) {
	t.Helper()
	behind, err := order.Behind(r)
	if plain.Told(err) != want || err != nil && len(behind) != 0 {
		t.Errorf("%s: Behind: got %v, %v, want %v", name, behind, err, want)
	}
	ahead, err := order.Turned(r)
	if plain.Told(err) != want || err != nil && len(ahead) != 0 {
		t.Errorf("%s: Turned: got %v, %v, want %v", name, ahead, err, want)
	}
	if want == api.OK {
		want = api.ErrRange
	}
	is, err := order.Less(r, -1, len(r))
	if plain.Told(err) != want || is {
		t.Errorf("%s: Less: got %v, %v, want %v", name, is, err, want)
	}
	with, err := order.With(r, len(r), -1)
	if plain.Told(err) != want || len(with) != 0 {
		t.Errorf("%s: With: got %v, %v, want %v", name, with, err, want)
	}
}

// TestBehindAndTurned holds 1.2, where not all that stands behind is told, too.
func TestBehindAndTurned(t *testing.T) {
	for _, c := range []struct{ r, behind, ahead []int }{
		{nil, nil, nil},
		{[]int{0}, []int{0}, []int{0}},
		{[]int{0, 0, 0}, []int{0, 0, 0}, []int{0, 0, 0}},
		{[]int{2, 4, 0}, []int{6, 4, 0}, []int{0, 1, 3}},
		{[]int{6, 4, 0}, []int{6, 4, 0}, []int{0, 1, 3}},
		{[]int{0, 1, 2}, []int{0, 1, 3}, []int{6, 4, 0}},
		{[]int{6, 8, 8, 0}, []int{14, 8, 8, 0}, []int{0, 1, 1, 7}},
		{[]int{8, 4, 1, 0}, []int{8, 13, 9, 0}, []int{6, 0, 2, 7}},
		{[]int{2, 0, 8, 0, 0}, []int{2, 0, 8, 0, 0}, []int{0, 1, 0, 4, 0}},
	} {
		if got, err := order.Behind(c.r); err != nil || !slices.Equal(got, c.behind) {
			t.Errorf("Behind %v: got %v, %v, want %v", c.r, got, err, c.behind)
		}
		if got, err := order.Turned(c.r); err != nil || !slices.Equal(got, c.ahead) {
			t.Errorf("Turned %v: got %v, %v, want %v", c.r, got, err, c.ahead)
		}
	}
}

// TestLongRow: over most others, whichever way the numbers go.
func TestLongRow(t *testing.T) {
	const n = api.MaxThings
	up, down := row(n), make([]int, n)
	for i := 1; i < n; i++ {
		down[i] = 1 << (i - 1)
	}
	upBehind, err1 := order.Behind(up)
	downBehind, err2 := order.Behind(down)
	upAhead, err3 := order.Turned(up)
	if err1 != nil || err2 != nil || err3 != nil {
		t.Fatal(err1, err2, err3)
	}
	for i := range n {
		below := 1<<i - 1
		above := (1<<n - 1) &^ (below | 1<<i)
		if upBehind[i] != above || downBehind[i] != below || upAhead[i] != below {
			t.Errorf("thing %d: got %b, %b, %b", i, upBehind[i], downBehind[i], upAhead[i])
		}
	}
}

// TestLess holds 1.2.
func TestLess(t *testing.T) {
	r := []int{2, 4, 0, 0}
	for _, c := range []struct {
		a, b int
		is   bool
		want api.Errno
	}{
		{0, 1, true, api.OK},
		{0, 2, true, api.OK},
		{1, 2, true, api.OK},
		{2, 0, false, api.OK},
		{1, 0, false, api.OK},
		{0, 0, false, api.OK},
		{0, 3, false, api.OK},
		{3, 0, false, api.OK},
		{3, 3, false, api.OK},
		{-1, 0, false, api.ErrRange},
		{0, -1, false, api.ErrRange},
		{4, 0, false, api.ErrRange},
		{0, 4, false, api.ErrRange},
		{math.MinInt, 1, false, api.ErrRange},
		{0, math.MinInt, false, api.ErrRange},
		{math.MaxInt, 1, false, api.ErrRange},
		{0, math.MaxInt, false, api.ErrRange},
		{64, 64, false, api.ErrRange},
	} {
		if is, err := order.Less(r, c.a, c.b); is != c.is || plain.Told(err) != c.want {
			t.Errorf("Less %d %d: got %v, %v, want %v, %v", c.a, c.b, is, err, c.is, c.want)
		}
	}
	if is, err := order.Less(nil, 0, 0); is || plain.Told(err) != api.ErrRange {
		t.Errorf("Less of no things: got %v, %v", is, err)
	}
}

// TestWith holds 1.2.
func TestWith(t *testing.T) {
	r := []int{2, 4, 0, 16, 0}
	for _, c := range []struct {
		a, b int
		with []int
		want api.Errno
	}{
		{0, 1, []int{6, 4, 0, 16, 0}, api.OK},    // it is told already
		{0, 2, []int{6, 4, 0, 16, 0}, api.OK},    // it is there already, over another one
		{2, 3, []int{30, 28, 24, 16, 0}, api.OK}, // what is ahead of it leads on
		{4, 0, []int{6, 4, 0, 23, 7}, api.OK},
		{1, 4, []int{22, 20, 0, 16, 0}, api.OK},
		{1, 0, nil, api.ErrClash}, // it goes back at once
		{2, 0, nil, api.ErrClash}, // it goes back over another one
		{3, 3, nil, api.ErrClash},
		{0, 0, nil, api.ErrClash},
		{-1, 0, nil, api.ErrRange},
		{0, -1, nil, api.ErrRange},
		{5, 0, nil, api.ErrRange},
		{0, 5, nil, api.ErrRange},
		{-1, -1, nil, api.ErrRange}, // behind itself, but no thing
		{5, 5, nil, api.ErrRange},
		{math.MinInt, 0, nil, api.ErrRange},
		{0, math.MinInt, nil, api.ErrRange},
		{math.MaxInt, 0, nil, api.ErrRange},
		{0, math.MaxInt, nil, api.ErrRange},
	} {
		if with, err := order.With(r, c.a, c.b); !slices.Equal(with, c.with) || plain.Told(err) != c.want {
			t.Errorf("With %d %d: got %v, %v, want %v, %v", c.a, c.b, with, err, c.with, c.want)
		}
	}
	if with, err := order.With(nil, 0, 0); len(with) != 0 || plain.Told(err) != api.ErrRange {
		t.Errorf("With of no things: got %v, %v", with, err)
	}
	if with, err := order.With([]int{2, 1}, 0, 1); len(with) != 0 || plain.Told(err) != api.ErrClash {
		t.Errorf("With of a ring: got %v, %v", with, err)
	}
}
