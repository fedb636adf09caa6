package river_test

import (
	"slices"
	"testing"

	"limitrophe/api"
	"limitrophe/river"
)

// one makes gains of one kind.
func one(from, to, cells int) [4][4]int {
	var g [4][4]int
	g[from][to] = cells
	return g
}

// Who gains from whom, in the years of the example 4 among others (P5.5).
func TestGains(t *testing.T) {
	const (
		nobody = river.Nobody
		west   = river.West
		east   = river.East
		both   = river.Both
	)
	for _, x := range []struct {
		what string
		l    []string
		slow int
		want [4][4]int
	}{
		{"example 4, nothing is slow", grown, 0, [4][4]int{}},
		{"example 4, one cell is", grown, 1, one(both, west, 1)},
		{"example 4, two cells are", grown, 2, [4][4]int{both: {west: 1}, east: {west: 1}}},
		{"example 4, all are", grown, 144, [4][4]int{both: {west: 1}, east: {west: 1}}},
		{"example 4 backwards", []string{grown[2], grown[1], grown[0]}, 2, [4][4]int{west: {both: 1, east: 1}}},
		{"one year", grown[:1], 144, [4][4]int{}},
		{"land of the West is the East's", []string{"WWWE", "WEEE"}, 2, one(west, east, 2)},
		{"land of the West is the East's suddenly", []string{"WWWE", "WEEE"}, 1, [4][4]int{}},
		{"land of the East is the West's", []string{"WEEE", "WWWE"}, 2, one(east, west, 2)},
		{"a line is a pond", []string{"W...E", "WI.IE"}, 1, one(both, nobody, 1)},
		{"a pond is a line", []string{"WI.IE", "W...E"}, 1, one(nobody, both, 1)},
		{"a pond of the West", []string{"WI..IE", "WI.IIE", "W..IIE"}, 1, [4][4]int{nobody: {west: 1, east: 1}}},
		{"water of the West is a pond", []string{"W....E", "WI...E", "WI..IE"}, 1, [4][4]int{west: {nobody: 1}, east: {nobody: 1}}},
		{"a line comes, as the West grows", []string{"W....E", "WW...E"}, 1, one(east, both, 1)},
		{"a line comes, as the East grows", []string{"W....E", "W...EE"}, 1, one(west, both, 1)},
		{"a cell that is another one's in between alone", []string{"W.E", "WEE", "W.E"}, 1, [4][4]int{}},
		{"a cell that is another one's twice", []string{"W.E", "WEE", "WWE"}, 1, one(both, west, 1)},
		{"the law of the last year, not its map", []string{"W....E", "WWWW.E", "WWWWEE"}, 1, one(west, both, 1)},
		{"the map of the first year, not the one ahead of the last one", []string{"W.....E", "WW....E", "WW....E"}, 1, one(both, west, 1)},
	} {
		g, e := river.Gains(years(x.l...), x.slow)
		if g != x.want || e != api.OK {
			t.Error(x.what, g, e)
		}
	}
}

// The last year in which a cell is another one's (P5.5).
func TestLast(t *testing.T) {
	back := []string{"W.E", "WEE", "WEE", "W.E", "W.E"}
	island := []string{"W..I..E", "WW.I..E", "WW....E", "WW....E"} // near to the West, then the line is gone
	for _, x := range []struct {
		what       string
		l          []string
		slow, cell int
		want       int
	}{
		{"example 4, in the first year that differs", grown, 1, 3, 1},
		{"example 4, not again", grown, 2, 3, 1},
		{"example 4, in the last year", grown, 2, 4, 2},
		{"example 4, suddenly", grown, 1, 4, none},
		{"example 4, nothing is slow", grown, 0, 3, none},
		{"example 4, land of the West", grown, 2, 0, none},
		{"example 4, water of the West that is its land", grown, 2, 1, none},
		{"example 4, the East's land", grown, 2, 6, none},
		{"example 4, all is slow", grown, 144, 4, 2},
		{"one year", grown[:1], 144, 3, none},
		{"to and fro", back, 1, 1, 3},
		{"to and fro suddenly", back, 0, 1, none},
		{"to", back[:3], 1, 1, 1},
		{"to and fro, and to again", append(slices.Clone(back), "WWE"), 1, 1, 5},
		{"a year in which the law alone stays", []string{"W....E", "WWWW.E", "WW.W.E"}, 1, 3, none},
		{"an island that is the West's by count, then by nearness", island, 1, 3, none},
		{"water behind an island that goes", island, 1, 4, none},
		{"the cell stays, and its owner does not", []string{"W...E", "W...E", "W..EE", "W..EE"}, 1, 2, 2},
		{"an island's owner, as another island comes", []string{"W.I.E / WW.EE / W...E", "W.I.E / WW.EE / W...E", "W.I.E / WW.EE / WI..E"}, 1, 2, 2},
	} {
		year, e := river.Last(years(x.l...), x.slow, x.cell)
		if year != x.want || e != api.OK {
			t.Error(x.what, year, e)
		}
	}
}

// For which numbers a cell is an owner's at last (P5.5).
func TestSlows(t *testing.T) {
	swap := []string{"W.E / W.E", "WWE / W.E", "W.E / WWE"} // what one cell brings two take away
	for _, x := range []struct {
		what string
		l    []string
		cell int
		want [4][]api.Span // by the numbers of owners
	}{
		{"example 4, the line", grown, 3, [4][]api.Span{river.West: spans(1, 144), river.Both: spans(0, 0)}},
		{"example 4, beside the line", grown, 4, [4][]api.Span{river.West: spans(2, 144), river.East: spans(0, 1)}},
		{"example 4, land of the West", grown, 0, [4][]api.Span{river.West: spans(0, 144)}},
		{"example 4, land of the East", grown, 6, [4][]api.Span{river.East: spans(0, 144)}},
		{"one year", grown[:1], 3, [4][]api.Span{river.Both: spans(0, 144)}},
		{"two spans, and one between them", swap, 1, [4][]api.Span{river.West: spans(1, 1), river.Both: spans(0, 0, 2, 144)}},
		{"the other cell", swap, 4, [4][]api.Span{river.West: spans(2, 144), river.Both: spans(0, 1)}},
		{"three spans", []string{"W.E / W.E / W.E", "WWE / W.E / W.E", "W.E / WWE / W.E", "WEE / WEE / WEE", "WEE / W.E / WEE"}, 1, [4][]api.Span{
			river.West: spans(1, 1), river.East: spans(3, 144), river.Both: spans(0, 0, 2, 2)}},
		{"a pond", []string{"W...E", "WI.IE"}, 2, [4][]api.Span{river.Nobody: spans(1, 144), river.Both: spans(0, 0)}},
		{"all cells", flood[:2], 3, [4][]api.Span{river.West: spans(6, 144), river.East: spans(0, 5)}},
		{"changes of one year, of one and of three cells", gone[:2], 4, [4][]api.Span{river.East: spans(0, 2), river.West: spans(3, 144)}},
	} {
		for owner, want := range x.want {
			l, e := river.Slows(years(x.l...), x.cell, owner)
			if !slices.Equal(l, want) || e != api.OK {
				t.Error(x.what, owner, l, e)
			}
		}
	}
}
