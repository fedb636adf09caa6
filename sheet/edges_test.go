package sheet_test

import (
	"math/rand"
	"testing"

	"limitrophe/api"
	"limitrophe/sheet"
)

// proven reports edges of which a match has another number of pairs than levels allow; it returns that number.
func proven(t *testing.T, a, b []sheet.Mark, play int) int {
	t.Helper()
	match, e := sheet.Match(a, b, play)
	if e != api.OK || !isMatch(a, b, play, match) {
		t.Error("no match:", a, b, play, match, e)
	}
	if is, e := sheet.Matches(a, b, play, match); !is || e != api.OK {
		t.Error("the match is called none:", a, b, play, match, e)
	}
	levels, e := sheet.Levels(a, b, play)
	if e != api.OK || len(levels) != len(a) {
		t.Error("no levels:", a, b, play, levels, e)
	}
	for _, row := range levels {
		if len(row) != len(b) {
			t.Error("not as many levels as marks:", a, b, play, levels)
		}
	}
	if !areLevels(a, b, play, levels) || highest(levels) != len(match) {
		t.Error("no levels, or not as many as pairs:", a, b, play, levels, match)
	}
	if bars, e := sheet.Bars(a, b, play, levels); bars != len(match) || e != api.OK {
		t.Error("the levels bar another number of pairs:", a, b, play, levels, bars, e)
	}
	return len(match)
}

// P10.5: the most pairs of the example, and of edges that are easy to see through.
func TestMostPairs(t *testing.T) {
	for _, x := range []struct {
		what string
		a, b []sheet.Mark
		play int
		want int
	}{
		{"example 4", edge(), facing(), 11, 2},
		{"just enough for two pairs", edge(), facing(), 9, 2},
		{"one less", edge(), facing(), 8, 1},
		{"just enough for one pair", edge(), facing(), 2, 1},
		{"not enough for any", edge(), facing(), 1, 0},
		{"the greatest play", edge(), facing(), 1000000, 2},
		{"the same edge", edge(), edge(), 0, 3},
		{"the other edge", facing(), facing(), 0, 3},
		{"no marks", nil, nil, 0, 0},
		{"no marks on the other edge", edge(), nil, 1000000, 0},
		{"no marks on the one edge", nil, edge(), 1000000, 0},
		{"one mark each", marks(5, 3), marks(9, 3), 4, 1},
		{"one mark each, too far apart", marks(5, 3), marks(9, 3), 3, 0},
		{"one mark each, too far apart the other way", marks(9, 3), marks(5, 3), 3, 0},
		{"one mark each, of two kinds", marks(5, 3), marks(5, 4), 1000000, 0},
		{"at both ends", marks(-1000000, 0), marks(1000000, 0), 1000000, 0},
		{"half as far apart", marks(-500000, 20), marks(500000, 20), 1000000, 1},
		{"several that can be the same as one", marks(10, 1), marks(8, 1, 9, 1, 10, 1, 11, 1), 2, 1},
		{"pairs that cross", marks(10, 1, 11, 2), marks(10, 2, 11, 1), 1, 1},
		{"pairs that cross, and one that does not", marks(10, 1, 11, 2, 12, 3), marks(10, 2, 11, 1, 12, 3), 1, 2},
		{"the nearest one is not the right one", marks(0, 1, 10, 1), marks(9, 1, 18, 1), 9, 2},
		{"all cross", marks(1, 1, 2, 2, 3, 3, 4, 4), marks(1, 4, 2, 3, 3, 2, 4, 1), 9, 1},
		{"30 marks", evenly(30, 1, 0), evenly(30, 1, 0), 0, 30},
		{"30 marks, and much play", evenly(30, 1, 20), evenly(30, 1, 20), 1000000, 30},
		{"30 marks, half as far apart", evenly(30, 2, 0), evenly(30, 1, 0), 0, 15},
		{"30 marks, and 29", evenly(30, 100, 0), evenly(29, 101, 0), 50, 29},
		{"30 marks, none of them the same", evenly(30, 1, 0), evenly(30, 1, 1), 1000000, 0},
	} {
		if got := proven(t, x.a, x.b, x.play); got != x.want {
			t.Error(x.what, got, x.want)
		}
	}
}

// P10.5: no match has more pairs than that of Match, of all matches.
func TestMatchOfAllMatches(t *testing.T) {
	r := rand.New(rand.NewSource(8))
	many, none := 0, 0
	for range 10000 {
		a, b, play := anyEdges(r, 6)
		most, tried := mostPairs(a, b, play)
		if got := proven(t, a, b, play); got != most {
			t.Error("another match has more pairs:", a, b, play, got, most)
		}
		many += count(tried > 20)
		none += count(most == 0)
	}
	if min(many, none) < 1000 {
		t.Error("too few edges of some kind were tried:", many, none)
	}
}

// P10.5: the same with up to 30 marks, where levels prove it.
func TestMatchOfManyMarks(t *testing.T) {
	r := rand.New(rand.NewSource(9))
	full, long := 0, 0
	for range 1000 {
		a, b, play := anyEdges(r, 30)
		got := proven(t, a, b, play)
		full += count(len(a) == 30 && len(b) > 20)
		long += count(got > 10)
	}
	if min(full, long) < 60 {
		t.Error("too few edges of some kind were tried:", full, long)
	}
}

// P10.5: which lists are matches of the edges of example 4.
func TestMatches(t *testing.T) {
	for _, x := range []struct {
		what string
		list []sheet.Pair
		play int
		is   bool
	}{
		{"that of example 4", pairs(0, 1, 1, 2), 11, true},
		{"the other one of it", pairs(1, 0, 2, 1), 11, true},
		{"just one pair of it", pairs(1, 2), 11, true},
		{"no pairs", nil, 11, true},
		{"just enough play", pairs(0, 1, 1, 2), 9, true},
		{"not enough play for the first pair", pairs(0, 1, 1, 2), 8, false},
		{"not enough play for the last pair", pairs(1, 0, 2, 1), 10, false},
		{"just enough play for the other pair", pairs(1, 0), 9, true},
		{"not enough play for the other pair", pairs(1, 0), 8, false},
		{"two kinds", pairs(0, 0), 11, false},
		{"two kinds behind a pair", pairs(0, 1, 2, 2), 11, false},
		{"pairs that cross", pairs(1, 0, 0, 1), 11, false},
		{"pairs that cross the other way", pairs(0, 1, 1, 0), 11, false},
		{"a mark of the one edge twice", pairs(1, 0, 1, 2), 11, false},
		{"a mark of the other edge twice", pairs(0, 1, 2, 1), 11, false},
		{"a pair twice", pairs(1, 0, 1, 0), 11, false},
		{"a match turned round", pairs(1, 2, 0, 1), 11, false},
		{"a match, and a pair more", pairs(0, 1, 1, 2, 2, 1), 11, false},
	} {
		if is, e := sheet.Matches(edge(), facing(), x.play, x.list); is != x.is || e != api.OK {
			t.Error(x.what, is, e)
		}
	}
	if is, e := sheet.Matches(nil, nil, 0, nil); !is || e != api.OK {
		t.Error("no marks, and no pairs:", is, e)
	}
	if is, e := sheet.Matches(evenly(30, 1, 0), evenly(30, 1, 0), 0, pairs(0, 0, 29, 29)); !is || e != api.OK {
		t.Error("the first marks, and the last ones:", is, e)
	}
}

// P10.5: any list is a match just if the terms say so.
func TestAnyMatches(t *testing.T) {
	r := rand.New(rand.NewSource(10))
	var are [2]int
	for range 20000 {
		a, b, play := anyEdges(r, 12)
		list := anyPairs(r, a, b, play)
		want := isMatch(a, b, play, list)
		if is, e := sheet.Matches(a, b, play, list); is != want || e != api.OK {
			t.Error(a, b, play, list, is, want, e)
		}
		are[count(want)] += count(len(list) > 1)
	}
	if min(are[0], are[1]) < 1500 {
		t.Error("too few lists of some kind were tried:", are)
	}
}

// P10.5: which numbers are levels of the edges of example 4.
func TestBars(t *testing.T) {
	for _, x := range []struct {
		what   string
		levels [][]int
		want   int
		e      api.Errno
	}{
		{"the least ones", [][]int{{0, 1, 0}, {1, 0, 2}, {0, 2, 0}}, 2, api.OK},
		{"turned round", [][]int{{0, 2, 0}, {2, 0, 1}, {0, 1, 0}}, 2, api.OK},
		{"greater than they must be", [][]int{{0, 9, 0}, {7, 0, 2}, {0, 3, 0}}, 9, api.OK},
		{"the greatest one there is", [][]int{{0, 30, 0}, {30, 0, 1}, {0, 1, 0}}, 30, api.OK},
		{"one that two pairs have that are not in the right order", [][]int{{0, 1, 0}, {1, 0, 2}, {0, 3, 0}}, 3, api.OK},
		{"one that two pairs have of which a match could be", [][]int{{0, 1, 0}, {1, 0, 1}, {0, 2, 0}}, 0, api.ErrFalse},
		{"one that two other pairs have", [][]int{{0, 1, 0}, {2, 0, 2}, {0, 2, 0}}, 0, api.ErrFalse},
		{"none for the first pair that can be the same", [][]int{{0, 0, 0}, {1, 0, 2}, {0, 2, 0}}, 0, api.ErrFalse},
		{"none for the last pair that can be the same", [][]int{{0, 1, 0}, {1, 0, 2}, {0, 0, 0}}, 0, api.ErrFalse},
		{"one for the first pair that cannot be the same", [][]int{{1, 1, 0}, {1, 0, 2}, {0, 2, 0}}, 0, api.ErrFalse},
		{"one for the last pair that cannot be the same", [][]int{{0, 1, 0}, {1, 0, 2}, {0, 2, 7}}, 0, api.ErrFalse},
		{"none at all", rows(3, 3, 0), 0, api.ErrFalse},
		{"the same for all", rows(3, 3, 1), 0, api.ErrFalse},
	} {
		if bars, e := sheet.Bars(edge(), facing(), 11, x.levels); bars != x.want || e != x.e {
			t.Error(x.what, bars, e)
		}
	}
	if bars, e := sheet.Bars(edge(), facing(), 1, rows(3, 3, 0)); bars != 0 || e != api.OK {
		t.Error("no pair can be the same:", bars, e)
	}
	if bars, e := sheet.Bars(nil, facing(), 1, nil); bars != 0 || e != api.OK {
		t.Error("no marks on the one edge:", bars, e)
	}
	if bars, e := sheet.Bars(edge(), nil, 1, rows(3, 0, 0)); bars != 0 || e != api.OK {
		t.Error("no marks on the other edge:", bars, e)
	}
}

// P10.5: any numbers are levels just if the terms say so.
func TestAnyBars(t *testing.T) {
	r := rand.New(rand.NewSource(11))
	var are [2]int
	above := 0
	for range 15000 {
		a, b, play := anyEdges(r, 5)
		levels := anyLevels(r, a, b, play)
		are[count(areLevels(a, b, play, levels))]++
		bars, e := sheet.Bars(a, b, play, levels)
		switch {
		case !areLevels(a, b, play, levels):
			if bars != 0 || e != api.ErrFalse {
				t.Error("no levels:", a, b, play, levels, bars, e)
			}
		case bars != highest(levels) || e != api.OK:
			t.Error(a, b, play, levels, bars, e)
		default:
			least, _ := mostPairs(a, b, play)
			above += count(bars > least)
			if bars < least {
				t.Error("levels bar a match that there is:", a, b, play, levels, bars, least)
			}
		}
	}
	if min(are[0], are[1], above) < 1000 {
		t.Error("too few levels of some kind were tried:", are, above)
	}
}
