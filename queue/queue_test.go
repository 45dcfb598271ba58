package queue_test

import (
	"slices"
	"testing"

	"whenstead/queue"
)

// TestEachOnce: in the order in which they were found, however often they are.
func TestEachOnce(t *testing.T) {
	for _, c := range []struct{ first, more, want []int }{
		{nil, nil, nil},
		{nil, []int{0}, []int{0}},
		{[]int{0}, nil, []int{0}},
		{[]int{0, 0}, []int{0, 0}, []int{0}},
		{[]int{3, 1, 3}, []int{2, 1, 0, 3}, []int{3, 1, 2, 0}},
		{nil, []int{-1, 5, -1, 5, 6}, []int{-1, 5, 6}},
	} {
		q := queue.New(c.first...)
		for _, x := range c.more {
			q.Add(x)
		}
		for range 2 {
			if got := slices.Collect(q.All()); !slices.Equal(got, c.want) || q.Len() != len(c.want) {
				t.Errorf("%v %v: got %v, %d of them, want %v", c.first, c.more, got, q.Len(), c.want)
			}
		}
	}
}

// TestWhileGoneOver: what is found on the way is gone over, too.
func TestWhileGoneOver(t *testing.T) {
	q := queue.New(1)
	var got []int
	for x := range q.All() {
		got = append(got, x)
		q.Add(x * 2 % 11)
		q.Add(x * 3 % 11)
	}
	if want := []int{1, 2, 3, 4, 6, 9, 8, 7, 5, 10}; q.Len() != len(want) || !slices.Equal(got, want) {
		t.Errorf("got %v, %d of them", got, q.Len())
	}
}

// TestBreak: no more are gone over than are asked for.
func TestBreak(t *testing.T) {
	q := queue.New("b", "a", "c")
	var got []string
	for x := range q.All() {
		got = append(got, x)
		if x == "a" {
			break
		}
	}
	if !slices.Equal(got, []string{"b", "a"}) {
		t.Errorf("got %v", got)
	}
}

// TestArrays: which are held against each other by what is in them; two queues know nothing of each other.
func TestArrays(t *testing.T) {
	q, other := queue.New([2]int{1, 2}), queue.New[[2]int]()
	x := [2]int{1, 1}
	x[1]++
	q.Add(x)
	x[0]++
	q.Add(x)
	if got := slices.Collect(q.All()); !slices.Equal(got, [][2]int{{1, 2}, {2, 2}}) || other.Len() != 0 {
		t.Errorf("got %v, and %d in the other one", got, other.Len())
	}
}

// TestNothingKept: the list of those that are found first is not written into, nor is it asked later.
func TestNothingKept(t *testing.T) {
	first := []int{1, 2, 9}
	q := queue.New(first[:2]...)
	q.Add(3)
	first[0] = 7
	if got := slices.Collect(q.All()); !slices.Equal(got, []int{1, 2, 3}) || first[2] != 9 {
		t.Errorf("got %v, and the list is %v", got, first)
	}
}
