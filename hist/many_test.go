package hist_test

import (
	"slices"
	"testing"

	"whenstead/api"
	"whenstead/extend"
	"whenstead/hist"
	"whenstead/plain"
)

// chance gives numbers that look as if by chance, but are the same at each run.
type chance uint

// next number below n.
func (c *chance) next(n int) int {
	*c = *c*6364136223846793005 + 1442695040888963407
	return int((uint(*c) >> 33) % uint(n))
}

// anyTimes of n ops: each process does one after the other, now and then without a pause.
func (c *chance) anyTimes(n int) []api.Op {
	procs, long := 1+c.next(api.MaxProcs), 1+c.next(9)
	var over [api.MaxProcs]int
	h := make([]api.Op, n)
	for i := range h {
		proc := c.next(procs)
		from := over[proc] + c.next(3)
		over[proc] = from + 1 + c.next(long)
		h[i] = api.Op{Proc: proc, From: from, To: over[proc]}
	}
	return h
}

// shuffled: a history told in any order.
func (c *chance) shuffled(h []api.Op) []api.Op {
	h = slices.Clone(h)
	for i := range h {
		j := c.next(i + 1)
		h[i], h[j] = h[j], h[i]
	}
	return h
}

// anyRow that keeps time, goodness aside.
func (c *chance) anyRow(h []api.Op, weak bool) []int {
	var l []int
	for len(l) < len(h) {
		i := c.next(len(h))
		comes := !slices.Contains(l, i)
		for j := range h {
			comes = comes && (slices.Contains(l, j) || !mustFollow(h, weak, i, j))
		}
		if comes {
			l = append(l, i)
		}
	}
	return l
}

// doAll the ops of a history as a row has them: they write few values, and read what they find.
func (c *chance) doAll(h []api.Op, l []int) {
	objects, values, writes := 1+c.next(api.MaxObjects), 1+c.next(4), 1+c.next(4)
	var has [api.MaxObjects]int
	for _, i := range l {
		object := c.next(objects)
		if c.next(5) < writes {
			h[i].Write = 1
			has[object] = c.next(values)
		}
		h[i].Object, h[i].Value = object, has[object]
	}
}

// anyHistory of so many ops: good by time, good by process, or with one or two changed.
func (c *chance) anyHistory(n int) (h []api.Op, atomic, weak bool) {
	h = c.shuffled(c.anyTimes(n))
	kind := c.next(3)
	c.doAll(h, c.anyRow(h, kind == 1))
	if kind < 2 || n == 0 {
		return h, kind != 1, true
	}
	for range 1 + c.next(2) {
		i := c.next(n)
		if c.next(3) == 0 {
			h[i].Write = 1 - h[i].Write
		} else {
			h[i].Value = c.next(4)
		}
	}
	return h, false, false
}

// leastByPrefix: the least good row that keeps time, with each beginning tried, and left where it is not good itself.
func leastByPrefix(h []api.Op, weak bool, l []int) []int {
	if len(l) == len(h) {
		return append([]int{}, l...)
	}
	for i := range h {
		if slices.Contains(l, i) {
			continue
		}
		longer := append(slices.Clone(l), i)
		missing := slices.ContainsFunc(placesBut(len(h), longer), func(j int) bool { return mustFollow(h, weak, i, j) })
		if missing || !isGood(h, longer) {
			continue
		}
		if found := leastByPrefix(h, weak, longer); found != nil {
			return found
		}
	}
	return none
}

// placesBut those of a list.
func placesBut(n int, l []int) []int {
	var left []int
	for j := range n {
		if !slices.Contains(l, j) {
			left = append(left, j)
		}
	}
	return left
}

// holdLong history against what comes of trying its beginnings.
func holdLong(t *testing.T, h []api.Op) (atomic, weak []int) {
	t.Helper()
	atomic, weak = leastByPrefix(h, false, nil), leastByPrefix(h, true, nil)
	is, got, err := hist.Atomic(h)
	if err != nil || is != (atomic != nil) || !slices.Equal(got, atomic) {
		t.Fatalf("Atomic %v: got %v, %v, %v, want %v", h, is, got, err, atomic)
	}
	is, got, err = hist.Weak(h)
	if err != nil || is != (weak != nil) || !slices.Equal(got, weak) {
		t.Fatalf("Weak %v: got %v, %v, %v, want %v", h, is, got, err, weak)
	}
	if atomic != nil && (weak == nil || slices.Compare(weak, atomic) > 0) {
		t.Fatalf("%v: Atomic tells %v, but Weak %v", h, atomic, weak)
	}
	return atomic, weak
}

// orderOf a history: behind each op all those that are to stand behind it, as chapter 1 has it.
func orderOf(h []api.Op, weak bool) []int {
	r := make([]int, len(h))
	for j := range h {
		for i := range h {
			if mustFollow(h, weak, i, j) {
				r[j] |= 1 << i
			}
		}
	}
	return r
}

// holdOrder: what is told is a row of chapter 3; if all write, the first one.
func holdOrder(t *testing.T, h []api.Op, weak bool, l []int) {
	t.Helper()
	r := orderOf(h, weak)
	if is, err := extend.Is(r, l); l != nil && (err != nil || !is) {
		t.Fatalf("%v: %v is no row of %v: %v", h, l, r, err)
	}
	h = slices.Clone(h)
	for i := range h {
		h[i].Write = 1
	}
	ask := hist.Atomic
	if weak {
		ask = hist.Weak
	}
	want, err1 := extend.First(r)
	if is, got, err2 := ask(h); err1 != nil || err2 != nil || !is || !slices.Equal(got, want) {
		t.Fatalf("%v: got %v, %v, %v, want %v, %v", h, is, got, err2, want, err1)
	}
}

// holdObjects: all is well just if each object is; weakly, each is if all is.
func holdObjects(t *testing.T, h []api.Op, atomic, weak bool) {
	t.Helper()
	all := true
	for object := range api.MaxObjects {
		one := slices.DeleteFunc(slices.Clone(h), func(op api.Op) bool { return op.Object != object })
		isAtomic, _, err1 := hist.Atomic(one)
		isWeak, _, err2 := hist.Weak(one)
		if err1 != nil || err2 != nil || weak && !isWeak {
			t.Fatalf("%v: %v, but of object %d %v, %v, %v", h, weak, object, isWeak, err1, err2)
		}
		all = all && isAtomic
	}
	if all != atomic {
		t.Fatalf("%v: Atomic tells %v, but of each object for itself %v", h, atomic, all)
	}
}

// TestMany holds 12.2 at many histories of all lengths.
func TestMany(t *testing.T) {
	c, met := chance(12), map[string]int{}
	for range 12000 {
		h, isAtomic, isWeak := c.anyHistory(c.next(api.MaxOps + 1))
		if err := hist.Check(h); err != nil {
			t.Fatalf("Check %v: got %v", h, err)
		}
		atomic, weak := holdLong(t, h)
		if isAtomic && atomic == nil || isWeak && weak == nil {
			t.Fatalf("%v: got %v and %v, but was made %v and %v", h, atomic, weak, isAtomic, isWeak)
		}
		holdOrder(t, h, false, atomic)
		holdOrder(t, h, true, weak)
		holdObjects(t, h, atomic != nil, weak != nil)
		met[whatCame(atomic, weak)]++
	}
	wantMet(t, met, 200)
}

// whatCame of a history, as hold tells it.
func whatCame(atomic, weak []int) string {
	switch {
	case atomic == nil && weak == nil:
		return "false false true"
	case atomic == nil:
		return "false true false"
	case slices.Equal(atomic, weak):
		return "true true true"
	}
	return "true true false"
}

// TestAtOnce holds 12.2 where all processes do all they do at one time, and none of many rows, or a late one, is good.
func TestAtOnce(t *testing.T) {
	c, met := chance(120), map[string]int{}
	for range 60 {
		h := make([]api.Op, api.MaxOps)
		for i := range h {
			h[i] = write(i%5, c.next(2), 1+c.next(9), i/5*10, i/5*10+10)
		}
		for range 1 + c.next(3) {
			i := c.next(len(h))
			h[i].Write, h[i].Value = 0, h[c.next(len(h))].Value
		}
		met[whatCame(holdLong(t, c.shuffled(h)))]++
	}
	if len(met) < 3 {
		t.Errorf("met %v", met)
	}
}

// otherwise: a history of which everything is called otherwise: processes and objects change their names, times and values grow.
func (c *chance) otherwise(h []api.Op) []api.Op {
	proc, object := c.next(api.MaxProcs), c.next(api.MaxObjects)
	scale, later, value := 1+c.next(1000), c.next(1000), 1+c.next(1000)
	h = slices.Clone(h)
	for i := range h {
		op := &h[i]
		op.Proc = (proc + 2*op.Proc) % api.MaxProcs
		op.Object = (object + 2*op.Object) % api.MaxObjects
		op.From, op.To = op.From*scale+later, op.To*scale+later
		op.Value *= value
	}
	return h
}

// TestOtherNames holds 12.2: what is told hangs on who did what, and when, not on how it is called.
func TestOtherNames(t *testing.T) {
	c := chance(121)
	for range 2000 {
		h, _, _ := c.anyHistory(c.next(api.MaxOps + 1))
		other := c.otherwise(h)
		is1, atomic1, _ := hist.Atomic(h)
		is2, atomic2, err := hist.Atomic(other)
		if err != nil || is1 != is2 || !slices.Equal(atomic1, atomic2) {
			t.Fatalf("Atomic %v: got %v, %v, but of %v %v, %v, %v", h, is1, atomic1, other, is2, atomic2, err)
		}
		is1, weak1, _ := hist.Weak(h)
		is2, weak2, err := hist.Weak(other)
		if err != nil || is1 != is2 || !slices.Equal(weak1, weak2) {
			t.Fatalf("Weak %v: got %v, %v, but of %v %v, %v, %v", h, is1, weak1, other, is2, weak2, err)
		}
	}
}

// anyFault puts one or several into a history; perhaps none.
func (c *chance) anyFault(h []api.Op) []api.Op {
	h = slices.Clone(h)
	for range 1 + c.next(3) {
		if len(h) == 0 || c.next(12) == 0 {
			h = append(h, write(c.next(5), 0, 1, 900, 901))
			continue
		}
		op := &h[c.next(len(h))]
		switch c.next(9) {
		case 0:
			op.Proc = c.next(7) - 1
		case 1:
			op.Object = c.next(5) - 1
		case 2:
			op.Write = c.next(4) - 1
		case 3:
			op.Value = c.next(2)*(1_000_002+c.next(3)) - 1 + c.next(2)
		case 4, 5:
			op.From = op.To - 1 + c.next(4)
		case 6, 7:
			op.From, op.To = max(op.From-c.next(4), 0), op.To+c.next(4)
		case 8:
			op.From, op.To = op.From-c.next(9), op.To+c.next(2)*1_000_000
		}
	}
	return h
}

// TestManyFaults holds 12.1 at many histories with something changed.
func TestManyFaults(t *testing.T) {
	c, met := chance(122), map[api.Errno]int{}
	for range 20000 {
		h, _, _ := c.anyHistory(c.next(api.MaxOps + 1))
		h = c.anyFault(h)
		want := wantCheck(h)
		met[want]++
		if want != api.OK {
			tells(t, "changed", h, want)
		} else if err := hist.Check(h); plain.Told(err) != api.OK {
			t.Fatalf("Check %v: got %v", h, err)
		}
	}
	for _, e := range []api.Errno{api.OK, api.ErrFull, api.ErrRange, api.ErrShape, api.ErrClash} {
		if met[e] < 200 {
			t.Errorf("met %v", met)
		}
	}
}
