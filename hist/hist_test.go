package hist_test

import (
	"slices"
	"testing"

	"whenstead/api"
	"whenstead/hist"
)

// write of a value to an object, by a process.
func write(proc, object, value, from, to int) api.Op {
	return api.Op{Proc: proc, Object: object, Write: 1, Value: value, From: from, To: to}
}

// read of a value of an object, by a process.
func read(proc, object, value, from, to int) api.Op {
	return api.Op{Proc: proc, Object: object, Value: value, From: from, To: to}
}

// history of some ops.
func history(all ...api.Op) []api.Op { return all }

// none: there is no row.
var none []int

// row of some ops; also of none.
func row(all ...int) []int { return append([]int{}, all...) }

// worked out by hand: of a history the least row of Atomic, and of Weak.
type worked struct {
	name         string
	h            []api.Op
	atomic, weak []int
}

// workedFew ops, or such as stand apart.
func workedFew() []worked {
	return []worked{
		{"no ops", nil, row(), row()},
		{"one that writes", history(write(0, 0, 7, 3, 4)), row(0), row(0)},
		{"one that writes 0", history(write(4, 2, 0, 0, 1)), row(0), row(0)},
		{"one that reads 0", history(read(2, 1, 0, 5, 9)), row(0), row(0)},
		{"one that reads what nobody wrote", history(read(2, 1, 1, 5, 9)), none, none},
		{"one that reads, as long as may be", history(read(0, 0, 0, 0, 1_000_000)), row(0), row(0)},
		{"the greatest value", history(write(0, 0, 1_000_000, 0, 1), read(1, 0, 1_000_000, 1, 2)), row(0, 1), row(0, 1)},
		{"written, then read", history(write(0, 0, 7, 1, 2), read(1, 0, 7, 3, 4)), row(0, 1), row(0, 1)},
		{"the same, told the other way", history(read(1, 0, 7, 3, 4), write(0, 0, 7, 1, 2)), row(1, 0), row(1, 0)},
		{"read ahead of what was written later", history(read(1, 0, 7, 1, 2), write(0, 0, 7, 3, 4)), none, row(1, 0)},
		{"the same, of one process", history(read(0, 0, 7, 1, 2), write(0, 0, 7, 3, 4)), none, none},
		{"written, then not read", history(write(0, 0, 7, 1, 2), read(1, 0, 0, 3, 4)), none, row(1, 0)},
		{"the same, of one process", history(write(0, 0, 7, 1, 2), read(0, 0, 0, 3, 4)), none, none},
		{"the same, at once", history(write(0, 0, 7, 1, 4), read(1, 0, 0, 3, 6)), row(1, 0), row(1, 0)},
		{"read at once", history(write(0, 0, 7, 1, 4), read(1, 0, 7, 3, 6)), row(0, 1), row(0, 1)},
		{"another object", history(write(0, 0, 7, 1, 2), read(1, 1, 7, 3, 4)), none, none},
		{"another object has 0", history(write(0, 0, 7, 1, 2), read(1, 1, 0, 3, 4)), row(0, 1), row(0, 1)},
		{"that is told last, by time", history(write(1, 1, 7, 5, 6), write(0, 0, 7, 1, 2)), row(1, 0), row(0, 1)},
		{"another value", history(write(0, 0, 7, 1, 4), read(1, 0, 6, 1, 4)), none, none},
		{"0 written again", history(write(0, 0, 7, 1, 2), write(0, 0, 0, 3, 4), read(1, 0, 0, 5, 6)), row(0, 1, 2), row(0, 1, 2)},
	}
}

// workedTouching: one's To is the other one's From.
func workedTouching() []worked {
	return []worked{
		{"two touch", history(write(0, 0, 7, 1, 4), read(1, 0, 0, 4, 6)), none, row(1, 0)},
		{"two touch, and it is read", history(write(0, 0, 7, 1, 4), read(1, 0, 7, 4, 6)), row(0, 1), row(0, 1)},
		{"two share a bit", history(write(0, 0, 7, 1, 5), read(1, 0, 0, 4, 6)), row(1, 0), row(1, 0)},
		{"two of one process touch", history(write(0, 0, 7, 1, 4), read(0, 0, 0, 4, 6)), none, none},
		{"two of one process touch, and it is read", history(read(0, 0, 7, 4, 6), write(0, 0, 7, 1, 4)), row(1, 0), row(1, 0)},
		{"two of one process touch, the last one told first", history(write(3, 2, 1, 9, 10), write(3, 2, 2, 8, 9)), row(1, 0), row(1, 0)},
		{"two touch at the ends of time", history(read(0, 0, 7, 999_999, 1_000_000), write(1, 0, 7, 0, 999_999)), row(1, 0), row(1, 0)},
		{"one between two", history(write(0, 0, 1, 4, 6), write(1, 0, 2, 6, 8), read(2, 0, 1, 5, 7)), row(0, 2, 1), row(0, 2, 1)},
		{"one between two that touch, behind both", history(read(2, 0, 2, 5, 7), write(0, 0, 1, 4, 6), write(1, 0, 2, 6, 8)), row(1, 2, 0), row(1, 2, 0)},
	}
}

// workedAtOnce: several at once.
func workedAtOnce() []worked {
	return []worked{
		{"all at once, as long as may be", history(read(4, 0, 3, 0, 1_000_000), read(3, 0, 2, 0, 1_000_000), write(2, 0, 2, 0, 1_000_000), write(1, 0, 3, 0, 1_000_000), read(0, 0, 0, 0, 1_000_000)), row(4, 2, 1, 3, 0), row(4, 2, 1, 3, 0)},
		{"written at once, read in either order", history(write(0, 0, 1, 0, 9), write(1, 0, 2, 0, 9), read(2, 0, 2, 10, 11)), row(0, 1, 2), row(0, 1, 2)},
		{"the other way", history(write(0, 0, 1, 0, 9), write(1, 0, 2, 0, 9), read(2, 0, 1, 10, 11)), row(1, 0, 2), row(0, 2, 1)},
		{"seen in one order by one", history(write(0, 0, 1, 0, 9), write(1, 0, 2, 0, 9), read(2, 0, 2, 1, 2), read(2, 0, 1, 3, 4)), row(1, 2, 0, 3), row(1, 2, 0, 3)},
		{"seen in two orders by two", history(write(0, 0, 1, 0, 9), write(1, 0, 2, 0, 9), read(2, 0, 2, 1, 2), read(2, 0, 1, 3, 4), read(3, 0, 1, 1, 2), read(3, 0, 2, 3, 4)), none, none},
		{"new, then old, while it is written", history(write(0, 0, 1, 0, 9), read(1, 0, 1, 1, 2), read(2, 0, 0, 3, 4)), none, row(2, 0, 1)},
		{"new, then old, by one", history(write(0, 0, 1, 0, 9), read(1, 0, 1, 1, 2), read(1, 0, 0, 3, 4)), none, none},
		{"new and old at once", history(write(0, 0, 1, 0, 9), read(1, 0, 1, 1, 4), read(2, 0, 0, 3, 6)), row(2, 0, 1), row(2, 0, 1)},
		{"only such as read, and all 0", history(read(0, 0, 0, 5, 9), read(1, 1, 0, 3, 4), read(2, 2, 0, 1, 2), read(1, 0, 0, 4, 5)), row(2, 1, 3, 0), row(0, 1, 2, 3)},
		{"only such as read, and one not 0", history(read(0, 0, 0, 5, 9), read(1, 1, 0, 3, 4), read(2, 2, 1, 1, 2)), none, none},
		{"only such as write", history(write(2, 0, 1, 7, 9), write(1, 0, 2, 2, 4), write(0, 1, 3, 3, 7), write(1, 0, 0, 0, 1)), row(3, 1, 2, 0), row(0, 2, 3, 1)},
	}
}

// workedObjects: several objects.
func workedObjects() []worked {
	return []worked{
		{"each wrote, then missed what the other one wrote", history(write(0, 0, 1, 0, 1), read(0, 1, 0, 2, 3), write(1, 1, 1, 0, 1), read(1, 0, 0, 2, 3)), none, none},
		{"the same, but one reads it", history(write(0, 0, 1, 0, 1), read(0, 1, 0, 2, 3), write(1, 1, 1, 0, 1), read(1, 0, 1, 2, 3)), none, row(0, 1, 2, 3)},
		{"the same, later", history(write(0, 0, 1, 0, 1), read(0, 1, 0, 2, 5), write(1, 1, 1, 3, 4), read(1, 0, 1, 5, 6)), row(0, 1, 2, 3), row(0, 1, 2, 3)},
		{"one sees first the one, the other one the other", history(write(0, 0, 1, 0, 9), write(1, 1, 1, 0, 9), read(2, 0, 1, 0, 1), read(2, 1, 0, 2, 3), read(3, 1, 1, 0, 1), read(3, 0, 0, 2, 3)), none, none},
		{"both see first the one", history(write(0, 0, 1, 0, 9), write(1, 1, 1, 0, 9), read(2, 0, 1, 0, 1), read(2, 1, 0, 2, 3), read(3, 1, 0, 0, 1), read(3, 0, 1, 2, 3)), row(0, 2, 4, 3, 1, 5), row(0, 2, 3, 4, 1, 5)},
		{"passed on over three objects", history(read(3, 2, 3, 6, 7), write(2, 2, 3, 5, 6), read(2, 1, 2, 4, 5), write(1, 1, 2, 3, 4), read(1, 0, 1, 2, 3), write(0, 0, 1, 0, 2)), row(5, 4, 3, 2, 1, 0), row(5, 4, 3, 2, 1, 0)},
		{"passed on, but the first is not seen", history(write(0, 0, 1, 0, 1), write(0, 1, 1, 2, 3), read(1, 1, 1, 4, 5), read(1, 0, 0, 6, 7)), none, none},
		{"passed on too late", history(write(0, 0, 1, 0, 1), write(0, 1, 1, 2, 3), read(1, 1, 0, 4, 5), read(1, 0, 1, 6, 7)), none, row(0, 2, 1, 3)},
	}
}

// workedTwice: values that were written twice.
func workedTwice() []worked {
	return []worked{
		{"written twice, with another one between", history(write(0, 0, 1, 0, 1), write(0, 0, 2, 2, 3), write(0, 0, 1, 4, 5), read(1, 0, 1, 6, 7)), row(0, 1, 2, 3), row(0, 1, 2, 3)},
		{"read the first time", history(write(0, 0, 1, 0, 1), write(0, 0, 2, 2, 5), write(0, 0, 1, 6, 7), read(1, 0, 1, 3, 4)), row(0, 3, 1, 2), row(0, 1, 2, 3)},
		{"read, and read again", history(write(0, 0, 1, 0, 9), write(1, 0, 1, 0, 9), write(2, 0, 2, 0, 9), read(3, 0, 1, 0, 1), read(3, 0, 2, 2, 3), read(3, 0, 1, 4, 5)), row(0, 3, 2, 4, 1, 5), row(0, 3, 2, 4, 1, 5)},
		{"read three times, written twice", history(write(0, 0, 1, 0, 9), write(1, 0, 1, 0, 9), write(2, 0, 2, 0, 9), read(3, 0, 2, 0, 1), read(3, 0, 1, 2, 3), read(3, 0, 2, 4, 5)), none, none},
		{"0 read, written, and read again", history(read(0, 0, 0, 0, 1), read(0, 0, 1, 2, 3), read(0, 0, 0, 4, 5), write(1, 0, 0, 0, 5), write(2, 0, 1, 0, 5)), row(0, 4, 1, 3, 2), row(0, 4, 1, 3, 2)},
	}
}

// workedFull: as many ops as may be.
func workedFull() []worked {
	byTime := make([]api.Op, api.MaxOps)
	for k := range byTime {
		byTime[k] = write(k%5, 0, k, k, k+1)
	}
	turned := slices.Clone(byTime)
	slices.Reverse(turned)
	rounds := history(
		write(0, 0, 1, 0, 10), write(1, 0, 2, 0, 10), write(2, 0, 3, 0, 10), write(3, 0, 4, 0, 10), write(4, 0, 5, 0, 10),
		write(0, 0, 6, 10, 20), write(1, 0, 7, 10, 20), write(2, 0, 8, 10, 20), write(3, 0, 9, 10, 20), read(4, 0, 3, 10, 20))
	missed := slices.Clone(rounds)
	missed[9] = read(4, 0, 10, 10, 20)
	apart := slices.Clone(rounds)
	apart[9] = read(4, 1, 0, 10, 20)
	early := slices.Clone(rounds)
	early[4] = read(4, 0, 8, 0, 10)
	return []worked{
		{"ten by time", byTime, row(0, 1, 2, 3, 4, 5, 6, 7, 8, 9), row(0, 1, 2, 3, 4, 5, 6, 7, 8, 9)},
		{"ten, told the other way", turned, row(9, 8, 7, 6, 5, 4, 3, 2, 1, 0), row(5, 0, 6, 1, 7, 2, 8, 3, 9, 4)},
		{"ten in two rounds, the last one reads of the first", rounds, row(0, 1, 3, 4, 2, 9, 5, 6, 7, 8), row(0, 1, 3, 4, 2, 9, 5, 6, 7, 8)},
		{"ten in two rounds, the last one reads what nobody wrote", missed, none, none},
		{"ten in two rounds, the last one reads another object", apart, row(0, 1, 2, 3, 4, 5, 6, 7, 8, 9), row(0, 1, 2, 3, 4, 5, 6, 7, 8, 9)},
		{"ten in two rounds, one of the first reads of the second", early, none, none},
	}
}

// allWorkedOut above.
func allWorkedOut() []worked {
	return slices.Concat(workedFew(), workedTouching(), workedAtOnce(), workedObjects(), workedTwice(), workedFull())
}

// holdRow: what is told of a history, by the row that is wanted, or by none.
func holdRow(t *testing.T, name string, is bool, got []int, err error, want []int) {
	t.Helper()
	if err != nil || is != (want != nil) || !slices.Equal(got, want) {
		t.Errorf("%s: got %v, %v, %v, want %v", name, is, got, err, want)
	}
}

// TestWorkedOut holds 12.1 and 12.2.
func TestWorkedOut(t *testing.T) {
	for _, x := range allWorkedOut() {
		if err := hist.Check(x.h); err != nil {
			t.Errorf("%s: Check: got %v", x.name, err)
		}
		is, got, err := hist.Atomic(x.h)
		holdRow(t, x.name+": Atomic", is, got, err, x.atomic)
		is, got, err = hist.Weak(x.h)
		holdRow(t, x.name+": Weak", is, got, err, x.weak)
	}
}
