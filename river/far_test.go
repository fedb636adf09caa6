package river_test

import (
	"math"
	"math/rand"
	"slices"
	"testing"

	"limitrophe/api"
	"limitrophe/river"
)

// isles is the map of example 3, bend one with land of both shores in the middle, round which ways go.
const (
	isles = "W.....E / W.I.I.E / W.....E"
	bend  = "W.E...E / W.EIW.E / W.EIW.E / W.....E"
)

// How far cells are, those of the examples 1 to 3 among them, and that the tables hold (P5.2).
func TestFar(t *testing.T) {
	for _, x := range []struct{ m, west, east string }{
		{"W.....E", "0 1 2 3 4 5 -", "- 5 4 3 2 1 0"},
		{"W..I..E", "0 1 2 3 - - -", "- - - 3 2 1 0"},
		{"W..I..E / W..I..E", "0 1 2 3 - - - / 0 1 2 3 - - -", "- - - 3 2 1 0 / - - - 3 2 1 0"},
		{isles, "0 1 2 3 4 5 - / 0 1 2 4 5 6 - / 0 1 2 3 4 5 -", "- 5 4 3 2 1 0 / - 6 5 4 2 1 0 / - 5 4 3 2 1 0"},
		{"W.E", "0 1 -", "- 1 0"},
		{"WWE", "0 0 -", "- - 0"},
		{"WEE", "0 - -", "- 0 0"},
		{"WIE", "0 1 -", "- 1 0"},
		{"WIIE", "0 1 - -", "- - 1 0"},
		{"WI.IE", "0 1 - - -", "- - - 1 0"},
		{"WI.I.IE", "0 1 - - - - -", "- - - - - 1 0"},
		{"WEWE", "0 - 0 -", "- 0 - 0"},
		{"WE.WE", "0 - 1 0 -", "- 0 1 - 0"},
		{"W.EIE", "0 1 - - -", "- 1 0 1 0"},
		{"W.WW.E", "0 1 0 0 1 -", "- - - - 1 0"},
		{"W.E / W.E / W.E", "0 1 - / 0 1 - / 0 1 -", "- 1 0 / - 1 0 / - 1 0"},
		{"WWE / WIE / W.E / WEE", "0 0 - / 0 1 - / 0 1 - / 0 - -", "- - 0 / - 1 0 / - 1 0 / - 0 0"},
		{bend, "0 1 - 2 1 2 - / 0 1 - 1 0 1 - / 0 1 - 1 0 1 - / 0 1 2 2 1 2 -", "- 1 0 1 2 1 0 / - 1 0 1 - 1 0 / - 1 0 1 - 1 0 / - 2 1 2 2 1 0"},
		{"W....E / WIIIIE / W....E", "0 1 2 3 4 - / 0 1 3 4 5 - / 0 1 2 3 4 -", "- 4 3 2 1 0 / - 5 4 3 1 0 / - 4 3 2 1 0"},
		{"WIIIE / WI.IE / WIIIE", "0 1 - - - / 0 1 - - - / 0 1 - - -", "- - - 1 0 / - - - 1 0 / - - - 1 0"},
	} {
		m := drawn(x.m)
		for shore, want := range map[int]string{river.West: x.west, river.East: x.east} {
			far, e := river.Far(m, shore)
			if !slices.Equal(far, numbers(want)) || e != api.OK {
				t.Error(x.m, shore, far, e)
			}
			if is, e := river.Holds(m, shore, numbers(want)); !is || e != api.OK {
				t.Error(x.m, shore, is, e)
			}
			expectWays(t, m, shore, numbers(want))
		}
	}
}

// expectWays reports cells to which there is no shortest way, or one to land, or to where none leads.
func expectWays(t *testing.T, m river.Map, shore int, far []int) {
	t.Helper()
	for cell := range m.Cells {
		way, e := river.Way(m, shore, cell)
		if far[cell] < 1 {
			if e != api.ErrNone || len(way) > 0 {
				t.Error("a way where there is none:", m, shore, cell, way, e)
			}
			continue
		}
		if e != api.OK || len(way) != far[cell]+1 || !isWay(m, shore, cell, way) {
			t.Error("no shortest way:", m, shore, cell, way, e)
		}
	}
}

// Ways that are the only shortest ones (P5.2).
func TestWays(t *testing.T) {
	for _, x := range []struct {
		m           string
		shore, cell int
		want        []int
	}{
		{"W.....E", river.West, 1, list(0, 1)},
		{"W.....E", river.West, 5, list(0, 1, 2, 3, 4, 5)},
		{"W.....E", river.East, 5, list(6, 5)},
		{"W.....E", river.East, 1, list(6, 5, 4, 3, 2, 1)},
		{"W..I..E", river.West, 3, list(0, 1, 2, 3)},
		{"W..I..E", river.East, 3, list(6, 5, 4, 3)},
		{isles, river.West, 9, list(7, 8, 9)},
		{isles, river.East, 11, list(13, 12, 11)},
		{"WIE", river.East, 1, list(2, 1)},
		{"WE.WE", river.West, 2, list(3, 2)},
		{"WE.WE", river.East, 2, list(1, 2)},
		{"WWWIE", river.West, 3, list(2, 3)},
		{"WIIIIE / W....E", river.West, 4, list(6, 7, 8, 9, 10, 4)},
		{"WIEIIE / W.EI.E / W...IE", river.West, 15, list(12, 13, 14, 15)},
		{"W.I...E / WII.I.E / W...I.E", river.West, 3, list(14, 15, 16, 17, 10, 3)},
	} {
		if way, e := river.Way(drawn(x.m), x.shore, x.cell); !slices.Equal(way, x.want) || e != api.OK {
			t.Error(x.m, x.shore, x.cell, way, e)
		}
	}
}

// Which tables hold (P5.2).
func TestHolds(t *testing.T) {
	for _, x := range []struct {
		m, table string
		shore    int
		want     bool
	}{
		{"W..I..E", "0 1 2 3 - - -", river.West, true},
		{"W..I..E", "- - - 3 2 1 0", river.East, true},
		{"W..I..E", "- - - 3 2 1 0", river.West, false}, // that of the other shore
		{"W..I..E", "0 1 2 3 - - -", river.East, false},
		{"W..I..E", "0 1 2 3 4 5 -", river.West, false}, // through the island
		{"W..I..E", "0 1 2 - - - -", river.West, false}, // not to the island
		{"W..I..E", "0 1 2 2 - - -", river.West, false},
		{"W..I..E", "0 1 2 4 - - -", river.West, false},
		{"W..I..E", "0 1 2 3 2 1 -", river.West, false}, // from the other shore
		{"W..I..E", "0 1 2 3 - - 0", river.West, false},
		{"W..I..E", "- 1 2 3 - - -", river.West, false},
		{"W..I..E", "1 2 3 4 - - -", river.West, false},
		{"W..I..E", "0 2 3 4 - - -", river.West, false},
		{"W..I..E", "- - - - - - -", river.West, false},
		{"W..I..E", "0 0 0 0 0 0 0", river.West, false},
		{"WI..IE", "0 1 - - - -", river.West, true},
		{"WI..IE", "0 1 2 3 - -", river.West, false}, // a pond
		{"WI..IE", "0 1 5 6 - -", river.West, false},
		{"WI..IE", "0 1 6 6 - -", river.West, false},
		{"WI..IE", "0 1 -3 -2 - -", river.West, false},
		{"WI..IE", "0 1 -2 - - -", river.West, false},
		{"W.E.WE", "0 1 - 1 0 -", river.West, true},
		{"W.E.WE", "0 1 - 3 0 -", river.West, false}, // through the other shore's land
	} {
		if is, e := river.Holds(drawn(x.m), x.shore, numbers(x.table)); is != x.want || e != api.OK {
			t.Error(x.m, x.table, x.shore, is, e)
		}
	}
	for _, table := range [][]int{list(0, 1, math.MaxInt, math.MinInt, -1, -1), list(0, 1, math.MinInt, math.MaxInt, -1, -1), list(0, math.MinInt, math.MaxInt, -1, -1, -1), list(math.MaxInt, math.MinInt, -1, -1, -1, -1)} {
		if is, e := river.Holds(drawn("WI..IE"), river.West, table); is || e != api.OK {
			t.Error(table, is, e)
		}
	}
}

// tables yields all tables of so many numbers from -2 on.
func tables(cells, most int, yield func(table []int)) {
	table := slices.Repeat(list(-2), cells)
	for {
		yield(table)
		cell := 0
		for cell < cells && table[cell] == most {
			table[cell] = -2
			cell++
		}
		if cell == cells {
			return
		}
		table[cell]++
	}
}

// No table holds but the one that Far returns: all tables of small numbers are tried (P5.2).
func TestOneTableHolds(t *testing.T) {
	for _, text := range []string{"W.E", "WIE", "WWE", "W.IE", "WI.E", "WE.E", "W..E", "W...E", "WI.IE", "W.I.E", "WE.WE", "W.EWE", "W.E/W.E", "WIE/W.E", "WIE/WWE"} {
		m := drawn(text)
		for shore := river.West; shore <= river.East; shore++ {
			far, e := river.Far(m, shore)
			expect(t, text, e, api.OK)
			hold := 0
			tables(len(m.Cells), 4, func(table []int) {
				is, e := river.Holds(m, shore, table)
				if is != slices.Equal(table, far) || e != api.OK {
					t.Error(text, shore, table, is, e)
				}
				if is {
					hold++
				}
			})
			if hold != 1 {
				t.Error(text, shore, hold)
			}
		}
	}
}

// A table that holds but for some numbers does not hold (P5.2).
func TestNoOtherTableHolds(t *testing.T) {
	r := rand.New(rand.NewSource(3))
	for range 2000 {
		m := smallMap(r)
		if r.Intn(4) == 0 {
			m = greatMap(r)
		}
		shore := 1 + r.Intn(2)
		far, _ := river.Far(m, shore)
		if is, e := river.Holds(m, shore, far); !is || !doesHold(m, shore, far) || e != api.OK {
			t.Error(m, shore, far, is, e)
		}
		other, _ := river.Far(m, 3-shore)
		table := slices.Clone(far)
		for range 1 + r.Intn(3) {
			cell := r.Intn(len(table))
			table[cell] = list(none, 0, table[cell]+1, table[cell]-1, table[cell]+2, other[cell], wild(r))[r.Intn(7)]
		}
		if is, e := river.Holds(m, shore, table); is != slices.Equal(table, far) || is != doesHold(m, shore, table) || e != api.OK {
			t.Error(m, shore, table, is, e)
		}
		if is, e := river.Holds(m, shore, other); is || e != api.OK {
			t.Error(m, shore, other, is, e)
		}
	}
}

// winding is a map of the greatest size, in which the water from the West winds from row to row.
const winding = "W..........E / WIIIIIIIII.E / WI.........E / WI.IIIIIIIIE / WI.........E / WIIIIIIIII.E / " +
	"WI.........E / WI.IIIIIIIIE / WI.........E / WIIIIIIIII.E / WI.........E / WI.IIIIIIIIE"

// Long ways, from the one shore and from the other (P5.2).
func TestLongWays(t *testing.T) {
	m := drawn(winding)
	for shore, x := range map[int]struct {
		m    river.Map
		cell int
	}{river.West: {m, 134}, river.East: {mirrored(m), mirror(m, 134)}} {
		far, e := river.Far(x.m, shore)
		if e != api.OK || far[x.cell] != 61 || !slices.Equal(far, farByTables(x.m, shore)) {
			t.Error(shore, far, e)
		}
		if is, e := river.Holds(x.m, shore, far); !is || e != api.OK {
			t.Error(shore, is, e)
		}
		expectWays(t, x.m, shore, far)
	}
}
