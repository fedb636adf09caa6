package river_test

import (
	"math/rand"
	"slices"
	"testing"

	"limitrophe/api"
	"limitrophe/river"
)

// Whose cells and islands are, those of the examples 1 to 3 among them (P5.3).
func TestOwners(t *testing.T) {
	for _, x := range []struct {
		what, m, owners string
		islands         []river.Share
	}{
		{"example 1", "W.....E", "WWWBEEE", nil},
		{"example 2", "W..I..E", "WWWWEEE", []river.Share{given(3, river.West)}},
		{"example 2, with a second row", "W..I..E / W..I..E", "WWWWEEE / WWWWEEE", []river.Share{given(3, river.West)}},
		{"example 3", isles, "WWWBEEE / WWWBEEE / WWWBEEE", []river.Share{near(9, river.West), near(11, river.East)}},
		{"one cell of water", "W.E", "WBE", nil},
		{"an even number of cells", "W....E", "WWWEEE", nil},
		{"land alone", "WWEE", "WWEE", nil},
		{"land of both shores in turns", "WEWE", "WEWE", nil},
		{"land of the other shore ahead", "WE.WE", "WEBWE", nil},
		{"water to which the West alone has a way", "W.W.WIE", "WWWWWWE", []river.Share{given(5, river.West)}},
		{"water to which the East alone has a way", "WWE..EE", "WWEEEEE", nil},
		{"an island in one cell", "WIE", "WWE", []river.Share{given(1, river.West)}},
		{"an island of two cells", "WIIE", "WWWE", []river.Share{given(1, river.West)}},
		{"an island near the West", "WI..E", "WWEEE", []river.Share{near(1, river.West)}},
		{"an island near the East", "W..IE", "WWWEE", []river.Share{near(3, river.East)}},
		{"islands of one shore alone, round a pond", "WI.IE", "WWNEE", []river.Share{near(1, river.West), near(3, river.East)}},
		{"an island to which no way leads", "WI.I.IE", "WWNNNEE", []river.Share{near(1, river.West), nobodys(3), near(5, river.East)}},
		{"an island in an island", "WIIIIIE / WI...IE / WI.I.IE / WI...IE / WIIIIIE",
			"WWWWWWE / WWNNNWE / WWNNNWE / WWNNNWE / WWWWWWE", []river.Share{given(1, river.West), nobodys(17)}},
		{"a pond in an island", "WIIIE / WI.IE / WIIIE", "WWWWE / WWNWE / WWWWE", []river.Share{given(1, river.West)}},
		{"an island whose last cell is the least far", "W..IIIIE", "WWWEEEEE", []river.Share{near(3, river.East)}},
		{"an island whose first cell is the least far", "WIIII..E", "WWWWWEEE", []river.Share{near(1, river.West)}},
		{"an island whose middle is the least far", "W......E / W.III..E / W.IEI..E",
			"WWWWEEEE / WWEEEEEE / WWEEEEEE", []river.Share{near(10, river.East)}},
		{"an island whose ends are equally far", "W..II..E", "WWWWWEEE", []river.Share{given(3, river.West)}},
		{"islands with corners that touch", "W.I..E / W..I.E", "WWWEEE / WWWEEE", []river.Share{near(2, river.West), near(9, river.East)}},
		{"islands at the end of a row, and the beginning of the next one", "W..IE / WI..E", "WWWEE / WWEEE", []river.Share{near(3, river.East), near(6, river.West)}},
		{"an island with a bend", "W.III.E / W.I...E / W.I...E", "WWWWWEE / WWWEEEE / WWWEEEE", []river.Share{given(2, river.West)}},
		{"three columns", "WIE / W.E / WIE / WWE / WIE / WEE / WIE", "WWE / WBE / WEE / WWE / WWE / WEE / WEE",
			[]river.Share{given(1, river.West), given(7, river.East), given(13, river.West), given(19, river.East)}},
	} {
		m := drawn(x.m)
		owners, e := river.Owners(m)
		if !slices.Equal(owners, owned(x.owners)) || e != api.OK {
			t.Error(x.what, owners, e)
		}
		islands, e := river.Islands(m)
		if !slices.Equal(islands, x.islands) || e != api.OK {
			t.Error(x.what, islands, e)
		}
	}
}

// To whom islands are given that are equally far from both shores (P5.3). Rows with land at both sides part them.
func TestIslandsByCount(t *testing.T) {
	const (
		even   = "W.I.E"
		west   = "WI..E"
		east   = "W..IE"
		alone  = "WI.IE" // one is near to the West, one to the East, and none in between
		nobody = "WIIIIIE / WI...IE / WI.I.IE / WI...IE / WIIIIIE"
		land   = " / WW.EE / "
	)
	w, e := river.West, river.East
	for _, x := range []struct {
		what, m string
		islands []river.Share
	}{
		{"one", even, []river.Share{given(2, w)}},
		{"two", even + land + even, []river.Share{given(2, w), given(12, e)}},
		{"three", even + land + even + land + even, []river.Share{given(2, w), given(12, e), given(22, w)}},
		{"one, behind one that is near to the West", west + land + even, []river.Share{near(1, w), given(12, e)}},
		{"one, behind one that is near to the East", east + land + even, []river.Share{near(3, e), given(12, w)}},
		{"one, ahead of one that is near to the West", even + land + west, []river.Share{given(2, e), near(11, w)}},
		{"one, ahead of one that is near to the East", even + land + east, []river.Share{given(2, w), near(13, e)}},
		{"two, ahead of two that are near to the West", even + land + even + land + west + land + west,
			[]river.Share{given(2, e), given(12, e), near(21, w), near(31, w)}},
		{"three, ahead of one that is near to the West", even + land + even + land + even + land + west,
			[]river.Share{given(2, e), given(12, w), given(22, e), near(31, w)}},
		{"three, ahead of one that is near to the East", even + land + even + land + even + land + east,
			[]river.Share{given(2, w), given(12, w), given(22, e), near(33, e)}},
		{"two, with one between them that is near to the West", even + land + west + land + even,
			[]river.Share{given(2, e), near(11, w), given(22, w)}},
		{"two, with one between them that is near to the East", even + land + east + land + even,
			[]river.Share{given(2, w), near(13, e), given(22, w)}},
		{"one, with one each that is near", west + land + even + land + east, []river.Share{near(1, w), given(12, w), near(23, e)}},
		{"one, with two that are near to each by one way alone", alone + land + even + land + east,
			[]river.Share{near(1, w), near(3, e), given(12, w), near(23, e)}},
		{"one, and two that only one shore has a way to", "WIWEI.E / W.WEIIE / WIWEEEE",
			[]river.Share{near(1, w), near(4, e), near(15, w)}},
		{"one ahead of one that is Nobody's", nobody + " / WWW.EEE / W..I..E",
			[]river.Share{given(1, w), nobodys(17), given(45, e)}},
		{"one behind one that is Nobody's", "W..I..E / WWW.EEE / " + nobody,
			[]river.Share{given(3, w), given(15, e), nobodys(31)}},
	} {
		islands, e := river.Islands(drawn(x.m))
		if !slices.Equal(islands, x.islands) || e != api.OK {
			t.Error(x.what, islands, e)
		}
		owners, e := river.Owners(drawn(x.m))
		expect(t, x.what, e, api.OK)
		for _, s := range x.islands {
			if owners[s.First] != s.Owner {
				t.Error(x.what, s, owners[s.First])
			}
		}
	}
}

// As many islands as a map can have, and islands as long as they can be (P5.3).
func TestGreatestIslands(t *testing.T) {
	m := blank(12, 12)
	many := 0
	for cell := range m.Cells {
		column := cell % 12
		if m.Cells[cell] == river.Water && (cell/12+column)%2 == 0 {
			m.Cells[cell] = river.Island
			many++
		}
	}
	x := tellByTables(m)
	islands, e := river.Islands(m)
	if len(islands) != many || !slices.Equal(islands, x.shares) || e != api.OK {
		t.Error(len(islands), many, islands, e)
	}
	m = blank(12, 12)
	for cell := range m.Cells { // one that winds along every other row
		column := cell % 12
		if row := cell / 12; m.Cells[cell] == river.Water && (row%2 == 0 || row%4 == 1 && column == 10 || row%4 == 3 && column == 1) {
			m.Cells[cell] = river.Island
		}
	}
	x = tellByTables(m)
	islands, e = river.Islands(m)
	if len(islands) != 1 || !slices.Equal(islands, x.shares) || e != api.OK {
		t.Error(islands, x.shares, e)
	}
	if owners, e := river.Owners(m); !slices.Equal(owners, x.owners) || e != api.OK {
		t.Error(owners, x.owners, e)
	}
}

// A map in which East is West has the same ways, and a line in the same place (P5.2, P5.3).
func TestMirrored(t *testing.T) {
	r := rand.New(rand.NewSource(4))
	other := list(river.Nobody, river.East, river.West, river.Both)
	for range 2000 {
		m := greatMap(r)
		turned := mirrored(m)
		a, e := river.Far(m, river.West)
		b, f := river.Far(turned, river.East)
		before, g := river.Owners(m)
		after, h := river.Owners(turned)
		if e != api.OK || f != api.OK || g != api.OK || h != api.OK {
			t.Fatal(m, e, f, g, h)
		}
		for cell, kind := range m.Cells {
			if a[cell] != b[mirror(m, cell)] {
				t.Error("another way:", m, cell, a, b)
			}
			if kind == river.Water && before[cell] != other[after[mirror(m, cell)]] {
				t.Error("another owner:", m, cell, before, after)
			}
		}
	}
}
