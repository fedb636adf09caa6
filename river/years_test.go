package river_test

import (
	"slices"
	"testing"

	"limitrophe/api"
	"limitrophe/river"
)

// The years that several tests ask.
var (
	// those of example 4
	grown = []string{"W.....E", "WW....E", "WWWW..E"}
	// a cell that a sudden change left as it was, and a slow one changes later, twice
	later = []string{"W....E", "WWWW.E", "WWIW.E", "WWIWIE", "W.IWIE"}
	// land that comes suddenly, and goes again slowly
	gone = []string{"W....E / W....E", "WW..WE / W..WWE", "WW...E / W....E", "WWW..E / W....E"}
	// land of the West, an island and land of the East that come as one change, and go as three
	mixed = []string{"W.....E", "W.WIE.E", "W..I..E", "W.....E"}
	// all cells that can be otherwise
	flood = []string{"W...E / W...E", "WIIIE / WIIIE", "W...E / W...E"}
)

// Which changes a year has (P5.4).
func TestChanges(t *testing.T) {
	for _, x := range []struct {
		what string
		l    []string
		year int
		want [][]int
	}{
		{"the year 0", grown, 0, nil},
		{"one cell", grown, 1, [][]int{list(1)}},
		{"two cells", grown, 2, [][]int{list(2, 3)}},
		{"no change", []string{"W.E", "W.E", "WIE"}, 1, nil},
		{"a change behind a year without one", []string{"W.E", "W.E", "WIE"}, 2, [][]int{list(1)}},
		{"two changes", gone, 1, [][]int{list(1), list(4, 9, 10)}},
		{"one change of two that came", gone, 2, [][]int{list(4, 9, 10)}},
		{"one change of several kinds", mixed, 1, [][]int{list(2, 3, 4)}},
		{"two changes beside a cell that stays", mixed, 2, [][]int{list(2), list(4)}},
		{"a change between cells that stay", mixed, 3, [][]int{list(3)}},
		{"all cells", flood, 1, [][]int{list(1, 2, 3, 6, 7, 8)}},
		{"all cells again", flood, 2, [][]int{list(1, 2, 3, 6, 7, 8)}},
		{"land of the one shore is the other's", []string{"WWWE", "WEEE"}, 1, [][]int{list(1, 2)}},
		{"cells whose corners touch", []string{"W...E / W...E", "WW..E / W.W.E"}, 1, [][]int{list(1), list(7)}},
		{"cells whose corners touch, the other way", []string{"W...E / W...E", "W.W.E / WW..E"}, 1, [][]int{list(2), list(6)}},
		{"the end of a row and the beginning of the next one", []string{"W...E / W...E", "W..EE / WW..E"}, 1, [][]int{list(3), list(6)}},
		{"cells beside each other that were of different kinds", []string{"WIE.E", "WEIWE"}, 1, [][]int{list(1, 2, 3)}},
		{"cells beside each other with the same kind around", []string{"WI.IE", "WIIIE"}, 1, [][]int{list(2)}},
		{"a bend", []string{"W...E / W...E / W...E", "WI.IE / WI.IE / WIIIE"}, 1, [][]int{list(1, 3, 6, 8, 11, 12, 13)}},
		{"a ring round another change", []string{"W.....E / W.....E / W.....E / W.....E / W.....E", "WIIIIIE / WI...IE / WI.W.IE / WI...IE / WIIIIIE"}, 1,
			[][]int{list(1, 2, 3, 4, 5, 8, 12, 15, 19, 22, 26, 29, 30, 31, 32, 33), list(17)}},
		{"changes by their first cells, not by their last ones", []string{"W....E / W....E / W....E", "W.I..E / W.I.IE / WII.IE"}, 1, [][]int{list(2, 8, 13, 14), list(10, 16)}},
		{"a change of the year alone, not of the law", later, 2, [][]int{list(2)}},
	} {
		l, e := river.Changes(years(x.l...), x.year)
		if !slices.EqualFunc(l, x.want, slices.Equal[[]int]) || e != api.OK {
			t.Error(x.what, l, e)
		}
	}
}

// The map of the law of each year, that of the example 4 among them (P5.4).
func TestLaw(t *testing.T) {
	for _, x := range []struct {
		what string
		l    []string
		slow int
		want []string
	}{
		{"example 4, nothing is slow", grown, 0, []string{"W.....E", "W.....E", "W.....E"}},
		{"example 4, one cell is", grown, 1, []string{"W.....E", "WW....E", "WW....E"}},
		{"example 4, two cells are", grown, 2, grown},
		{"example 4, all are", grown, 144, grown},
		{"one year", grown[:1], 0, grown[:1]},
		{"one year, all is slow", grown[:1], 144, grown[:1]},
		{"no changes", []string{"WIE", "WIE"}, 0, []string{"WIE", "WIE"}},
		{"sudden, and later slow", later, 1, []string{"W....E", "W....E", "W.I..E", "W.I.IE", "W.I.IE"}},
		{"sudden, and later slow, nothing is slow", later, 0, []string{"W....E", "W....E", "W....E", "W....E", "W....E"}},
		{"sudden, and later slow, two cells are", later, 2, []string{"W....E", "W....E", "W.I..E", "W.I.IE", "W.I.IE"}},
		{"sudden, and later slow, all is slow", later, 3, later},
		{"land that goes again", gone, 1, []string{"W....E / W....E", "WW...E / W....E", "WW...E / W....E", "WWW..E / W....E"}},
		{"land that goes again, all is slow", gone, 3, gone},
		{"one change that goes as three", mixed, 1, []string{"W.....E", "W.....E", "W.....E", "W.....E"}},
		{"one change that goes as three, two cells are slow", mixed, 2, []string{"W.....E", "W.....E", "W.....E", "W.....E"}},
		{"one change that goes as three, all is slow", mixed, 3, mixed},
		{"all cells, five are slow", flood, 5, []string{flood[0], flood[0], flood[0]}},
		{"all cells, six are slow", flood, 6, flood},
		{"a sudden change that goes slowly, and leaves what was there", []string{"W....E", "WIII.E", "WWII.E", "WW.I.E", "WW...E"}, 1,
			[]string{"W....E", "W....E", "WW...E", "WW...E", "WW...E"}},
		{"a slow change that goes suddenly, and stays", []string{"W....E", "WW...E", "WWII.E", "W....E"}, 1,
			[]string{"W....E", "WW...E", "WW...E", "WW...E"}},
		{"slow and sudden changes of one year, and of the next one", []string{"W......E", "WW.II.EE", "WW....EE", "WWWI..EE"}, 1,
			[]string{"W......E", "WW....EE", "WW....EE", "WW....EE"}},
	} {
		l, e := river.Law(years(x.l...), x.slow)
		if !slices.EqualFunc(l, years(x.want...), areAlike) || e != api.OK {
			t.Error(x.what, l, e)
		}
	}
}

// The greatest years: 10 maps of 144 cells, with the greatest change that there can be (P5.4, P5.5).
func TestGreatestYears(t *testing.T) {
	full := blank(12, 12)
	for cell := range full.Cells {
		if full.Cells[cell] == river.Water {
			full.Cells[cell] = river.Island
		}
	}
	l := slices.Repeat([]river.Map{blank(12, 12), full}, 5)
	for year := range l {
		changes, e := river.Changes(l, year)
		if e != api.OK || (year > 0) != (len(changes) == 1 && len(changes[0]) == 120) {
			t.Error(year, changes, e)
		}
	}
	for slow, wide := range map[int]river.Map{0: l[0], 119: l[0], 120: l[9], 143: l[9], 144: l[9]} {
		law, e := river.Law(l, slow)
		if len(law) != 10 || !areAlike(law[9], wide) || e != api.OK {
			t.Error(slow, law, e)
		}
	}
	// The cell 10 is next to the East: the one island, which is 1 far from both shores, is the West's.
	for owner, want := range map[int][]api.Span{river.Nobody: nil, river.West: spans(120, 144), river.East: spans(0, 119), river.Both: nil} {
		if s, e := river.Slows(l, 10, owner); !slices.Equal(s, want) || e != api.OK {
			t.Error(owner, s, e)
		}
	}
	if year, e := river.Last(l, 120, 10); year != 9 || e != api.OK {
		t.Error(year, e)
	}
	if gains, e := river.Gains(l, 120); gains != [4][4]int{river.East: {river.West: 60}} || e != api.OK {
		t.Error(gains, e)
	}
}
