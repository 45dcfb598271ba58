package quorum_test

import (
	"slices"
	"strings"
	"testing"

	"whenstead/api"
	"whenstead/quorum"
)

// nodes as a word tells them: "024" is the set of 0, 2 and 4, and "-" that of none.
func nodes(word string) int {
	s := 0
	for _, c := range strings.Trim(word, "-") {
		s |= 1 << (c - '0')
	}
	return s
}

// sets as words tell them.
func sets(text string) []int {
	var all []int
	for _, word := range strings.Fields(text) {
		all = append(all, nodes(word))
	}
	return all
}

// list of some numbers.
func list(all ...int) []int { return all }

// worked out by hand: what is told of sets. Where all is full, unset is no word.
type worked struct {
	name        string
	n           int
	sets        string
	least       string
	unset       string
	liars, fail int
}

// workedFew sets, or nodes.
func workedFew() []worked {
	return []worked{
		{"one node", 1, "0", "0", "", 0, 0},
		{"one node, twice", 1, "0 0", "0", "", 0, 0},
		{"one node, as often as may be", 1, strings.Repeat("0 ", 20), "0", "", 0, 0},
		{"one of two nodes", 2, "1", "1", "", 0, 0},
		{"both nodes", 2, "01", "01", "0", 0, 0},
		{"both nodes, and one", 2, "01 0", "0", "", 0, 0},
		{"one of eight nodes", 8, "5", "5", "", 0, 0},
		{"the last of eight nodes", 8, "7", "7", "", 0, 0},
		{"two of eight nodes", 8, "67", "67", "6", 0, 0},
		{"three of five nodes", 5, "012", "012", "0", 1, 0},
		{"four of five nodes", 5, "1234", "1234", "1", 1, 0},
		{"all of five nodes", 5, "01234", "01234", "0", 2, 0},
		{"all of six nodes", 6, "012345", "012345", "0", 2, 0},
		{"all of seven nodes", 7, "0123456", "0123456", "0", 3, 0},
		{"all of eight nodes", 8, "01234567", "01234567", "0", 3, 0},
		{"all of eight nodes, twice", 8, "01234567 01234567", "01234567", "0", 3, 0},
		{"one in another", 5, "01234 012", "012", "0", 1, 0},
		{"one in another, which comes last", 5, "012 01234", "012", "0", 1, 0},
		{"many, each in the one ahead", 8, "01234567 1234567 123456 23456 2345 345 34 4", "4", "", 0, 0},
		{"four in common", 6, "01234 12345", "01234 12345", "1", 1, 0},
		{"three in common", 6, "1234 2345", "1234 2345", "2", 1, 0},
		{"two in common", 6, "0123 2345", "0123 2345", "2", 0, 0},
		{"one in common", 6, "013 345", "013 345", "3", 0, 0},
		{"five in common, of six and seven", 8, "123456 0234567", "123456 0234567", "01", 2, 0},
	}
}

// workedMany sets, of which none is in another one.
func workedMany() []worked {
	return []worked{
		{"two of three", 3, "01 02 12", "01 02 12", "", 0, 1},
		{"two of three, told otherwise", 3, "21 20 10 01 12 02", "01 02 12", "", 0, 1},
		{"two of three, and one beside them", 4, "01 02 12", "01 02 12", "", 0, 1},
		{"three of four", 4, "012 013 023 123", "012 013 023 123", "01", 0, 1},
		{"three of four, but one", 4, "012 013 123", "012 013 123", "1", 0, 0},
		{"three of five", 5, "012 013 023 123 014 024 124 034 134 234", "012 013 023 123 014 024 124 034 134 234", "", 0, 2},
		{"four of five", 5, "0123 0124 0134 0234 1234", "0123 0124 0134 0234 1234", "01", 1, 1},
		{"four of six", 6, "2345 1345 0345 1245 0245 0145 1235 0235 0135 0125 1234 0234 0134 0124 0123",
			"0123 0124 0134 0234 1234 0125 0135 0235 1235 0145 0245 1245 0345 1345 2345", "012", 0, 2},
		{"five of six", 6, "01234 01235 01245 01345 02345 12345", "01234 01235 01245 01345 02345 12345", "01", 1, 1},
		{"six of seven", 7, "012345 012346 012356 012456 013456 023456 123456", "012345 012346 012356 012456 013456 023456 123456", "01", 2, 1},
		{"seven of eight", 8, "1234567 0234567 0134567 0124567 0123567 0123467 0123457 0123456",
			"0123456 0123457 0123467 0123567 0124567 0134567 0234567 1234567", "01", 2, 1},
		{"a hub that the rim can do without", 5, "01 02 03 04 1234", "01 02 03 04 1234", "", 0, 1},
		{"a hub alone", 5, "04 03 02 01", "01 02 03 04", "0", 0, 0},
		{"the last one is the hub", 8, "07 17 27 37 47 57 67", "07 17 27 37 47 57 67", "0123456", 0, 0},
		{"lines through seven nodes", 7, "012 034 056 135 146 236 245", "012 034 135 245 236 146 056", "", 0, 2},
		{"lines through seven nodes, but one", 7, "012 034 056 135 146 236", "012 034 135 236 146 056", "013", 0, 2},
		{"a row and a column of three by two", 6, "0123 0124 0125 0345 1345 2345", "0123 0124 0125 0345 1345 2345", "012", 0, 1},
		{"three may be gone", 8, "0123 0245 1345 0146 0346 1346 1256 1356 2356 0127 0137 0237 1237 1457 3457 2467 0567",
			"0123 0245 1345 0146 0346 1346 1256 1356 2356 0127 0137 0237 1237 1457 3457 2467 0567", "0124", 0, 3},
	}
}

// workedMixed: some are in others, and some come more than once.
func workedMixed() []worked {
	return []worked{
		{"one is in all others", 5, "01234 0123 012 12 1234 12", "12", "1", 0, 0},
		{"two are in others", 5, "0124 01 134 123 01 0134 13", "01 13", "1", 0, 0},
		{"as many as may be", 7, "0123456 01 012 0123 01234 012345 02 023 0234 02345 12 123 1234 12345 0135 0156 0236 1256 0246 01246", "01 02 12", "", 0, 1},
		{"one of them alone is in another", 4, "023 012 0123 013", "012 013 023", "0", 0, 0},
		{"twice, and none in another", 4, "013 023 013 023 012 013", "012 013 023", "0", 0, 0},
		{"the greatest ones first", 6, "12345 02345 2345 0234 345 034", "034 345", "3", 0, 0},
	}
}

// allWorkedOut above.
func allWorkedOut() []worked {
	return slices.Concat(workedFew(), workedMany(), workedMixed())
}

// TestWorkedOut holds Check, Least and Full of 17.1, and Masks of 17.2.
func TestWorkedOut(t *testing.T) {
	for _, x := range allWorkedOut() {
		all := sets(x.sets)
		if err := quorum.Check(x.n, all); err != nil {
			t.Errorf("%s: Check: got %v", x.name, err)
		}
		if got, err := quorum.Least(x.n, all); err != nil || !slices.Equal(got, sets(x.least)) {
			t.Errorf("%s: Least: got %v, %v, want %v", x.name, got, err, sets(x.least))
		}
		if is, got, err := quorum.Full(x.n, all); err != nil || is != (x.unset == "") || got != nodes(x.unset) {
			t.Errorf("%s: Full: got %v, %v, %v, want %v", x.name, is, got, err, nodes(x.unset))
		}
		if liars, fail, err := quorum.Masks(x.n, all); err != nil || liars != x.liars || fail != x.fail {
			t.Errorf("%s: Masks: got %v, %v, %v, want %v, %v", x.name, liars, fail, err, x.liars, x.fail)
		}
	}
}

// TestHas holds Has of 17.1.
func TestHas(t *testing.T) {
	for _, x := range []struct {
		n       int
		sets    string
		are     string
		areNone string
	}{
		{1, "0", "0", "-"},
		{2, "01", "01", "- 0 1"},
		{2, "01 0", "0 01", "- 1"},
		{2, "1 01", "1 01", "- 0"},
		{3, "01 02 12", "01 02 12 012", "- 0 1 2"},
		{3, "012", "012", "- 0 1 2 01 02 12"},
		{3, "01 12", "01 12 012", "- 0 1 2 02"},
		{4, "012 13", "012 13 013 123 0123", "- 0 1 2 3 01 02 03 12 23 023"},
		{8, "07 17 27", "07 17 27 017 0347 127 01234567", "- 0 7 67 34567 0123456 12 012"},
		{8, "01234567", "01234567", "- 1234567 0123456 0124567 0 7"},
		{8, "0 0 0", "0 07 01234567", "- 1234567"},
	} {
		for _, word := range strings.Fields(x.are) {
			if is, err := quorum.Has(x.n, sets(x.sets), nodes(word)); err != nil || !is {
				t.Errorf("%s has one of %s: got %v, %v", word, x.sets, is, err)
			}
		}
		for _, word := range strings.Fields(x.areNone) {
			if is, err := quorum.Has(x.n, sets(x.sets), nodes(word)); err != nil || is {
				t.Errorf("%s has none of %s: got %v, %v", word, x.sets, is, err)
			}
		}
	}
}

// voted by hand: weights, how much is needed, and the sets.
type voted struct {
	name    string
	weights []int
	need    int
	want    string
}

// allVoted by hand.
func allVoted() []voted {
	ones, most := slices.Repeat(list(1), 8), slices.Repeat(list(20), 8)
	return []voted{
		{"one node", list(1), 1, "0"},
		{"one node, with as much as may be", list(20), 20, "0"},
		{"one node, with more than is needed", list(20), 11, "0"},
		{"both nodes", list(1, 1), 2, "01"},
		{"two of three", list(1, 1, 1), 2, "01 02 12"},
		{"three of three", list(1, 1, 1), 3, "012"},
		{"three of four", list(1, 1, 1, 1), 3, "012 013 023 123"},
		{"a first one that counts twice", list(2, 1, 1, 1), 3, "01 02 03 123"},
		{"a last one that counts twice", list(1, 1, 1, 2), 3, "012 03 13 23"},
		{"one that counts as much as all others", list(3, 1, 1, 1), 4, "01 02 03"},
		{"one that counts more than all others", list(1, 1, 4, 1), 4, "2"},
		{"not by how many they are", list(1, 1, 1, 1, 3), 4, "0123 04 14 24 34"},
		{"four weights", list(4, 3, 2, 1), 6, "01 02 123"},
		{"four weights, and more is needed", list(4, 3, 2, 1), 7, "01 023"},
		{"four weights, and more than that", list(4, 3, 2, 1), 8, "012 013"},
		{"four weights, but the least", list(4, 3, 2, 1), 9, "012"},
		{"four weights, all of them", list(4, 3, 2, 1), 10, "0123"},
		{"some have no weight", list(0, 1, 0, 1, 1), 2, "13 14 34"},
		{"one has weight", list(0, 0, 7, 0), 7, "2"},
		{"one has weight, and less is needed", list(0, 0, 7, 0), 4, "2"},
		{"the first one has none", list(0, 1), 1, "1"},
		{"the last one has none", list(1, 0), 1, "0"},
		{"all ones of eight", ones, 8, "01234567"},
		{"seven of eight", ones, 7, "0123456 0123457 0123467 0123567 0124567 0134567 0234567 1234567"},
		{"as much as may be", most, 160, "01234567"},
		{"just more than seven have", most, 141, "01234567"},
		{"what seven have", most, 140, "0123456 0123457 0123467 0123567 0124567 0134567 0234567 1234567"},
		{"two great ones, and small ones", list(20, 20, 1, 1, 1), 22, "01 023 123 024 124 034 134"},
		{"two great ones, and small ones, and one more is needed", list(20, 20, 1, 1, 1), 23, "01 0234 1234"},
		{"two great ones, and small ones, and more is needed", list(20, 20, 1, 1, 1), 24, "01"},
		{"each twice as much", list(1, 2, 4, 8, 16), 16, "4"},
		{"each twice as much, and more is needed", list(1, 2, 4, 8, 16), 21, "024 124 34"},
	}
}

// TestVotes holds Votes of 17.2.
func TestVotes(t *testing.T) {
	for _, x := range allVoted() {
		if got, err := quorum.Votes(x.weights, x.need); err != nil || !slices.Equal(got, sets(x.want)) {
			t.Errorf("%s: got %v, %v, want %v", x.name, got, err, sets(x.want))
		}
	}
}

// TestVotesMany holds Votes of 17.2: all that are just so many of eight nodes, also where they are more than may be asked for elsewhere.
func TestVotesMany(t *testing.T) {
	for _, x := range []struct{ weight, need, size, many int }{
		{1, 5, 5, 56}, {1, 6, 6, 28}, {1, 7, 7, 8}, {1, 8, 8, 1},
		{20, 81, 5, 56}, {20, 100, 5, 56}, {20, 101, 6, 28}, {20, 120, 6, 28}, {20, 121, 7, 8},
	} {
		var want []int
		for s := range 256 {
			if len(members(s)) == x.size {
				want = append(want, s)
			}
		}
		got, err := quorum.Votes(slices.Repeat(list(x.weight), api.MaxNodes), x.need)
		if err != nil || len(got) != x.many || !slices.Equal(got, want) {
			t.Errorf("%v: got %v, %v, want %v", x, got, err, want)
		}
	}
}

// TestAsNumbers holds 17.1 and 17.2: sets are numbers, bit i says whether node i is in one.
func TestAsNumbers(t *testing.T) {
	if got, err := quorum.Least(8, list(128+64, 64+1, 255, 128+1, 128+64)); err != nil || !slices.Equal(got, list(65, 129, 192)) {
		t.Errorf("Least: got %v, %v", got, err)
	}
	if is, err := quorum.Has(8, list(192), 128+64+4); err != nil || !is {
		t.Errorf("Has: got %v, %v", is, err)
	}
	if is, some, err := quorum.Full(8, list(192)); err != nil || is || some != 64 {
		t.Errorf("Full: got %v, %v, %v", is, some, err)
	}
	if got, err := quorum.Votes(list(0, 0, 1, 0, 0, 0, 1, 1), 2); err != nil || !slices.Equal(got, list(68, 132, 192)) {
		t.Errorf("Votes: got %v, %v", got, err)
	}
	if liars, fail, err := quorum.Masks(8, list(65, 129, 192)); err != nil || liars != 0 || fail != 1 {
		t.Errorf("Masks: got %v, %v, %v", liars, fail, err)
	}
}
