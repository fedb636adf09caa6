package river_test

import (
	"math/rand"
	"slices"
	"testing"

	"limitrophe/api"
	"limitrophe/river"
)

// expectTold reports what functions answer that is not so of a map.
func expectTold(t *testing.T, m river.Map, want told) {
	t.Helper()
	for shore := river.West; shore <= river.East; shore++ {
		if far, e := river.Far(m, shore); !slices.Equal(far, want.far[shore]) || e != api.OK {
			t.Error(m, shore, far, e, want.far[shore])
		}
		expectWays(t, m, shore, want.far[shore])
	}
	if l, e := river.Islands(m); !slices.Equal(l, want.shares) || e != api.OK {
		t.Error(m, l, e, want.shares)
	}
	if l, e := river.Owners(m); !slices.Equal(l, want.owners) || e != api.OK {
		t.Error(m, l, e, want.owners)
	}
}

// All that is told of a map is what all its ways tell (P5.2, P5.3, P0.6).
func TestAllWays(t *testing.T) {
	r := rand.New(rand.NewSource(5))
	var waters, islands [4]int // by their owners
	counted := 0
	for range 6000 {
		m := smallMap(r)
		want := tellByWays(m)
		expectTold(t, m, want)
		for cell, owner := range want.owners {
			if m.Cells[cell] == river.Water {
				waters[owner]++
			}
		}
		for _, s := range want.shares {
			islands[s.Owner]++
			if s.Owner != river.Nobody && !s.Near {
				counted++
			}
		}
	}
	if slices.Min(append(waters[:], islands[1:3]...)) < 300 || islands[river.Nobody] < 10 || islands[river.Both] > 0 || counted < 300 {
		t.Error("too few cells and islands of some kind were tried:", waters, islands, counted)
	}
}

// What is told of greater maps is what tables tell (P5.2, P5.3, P0.6).
func TestGreatMaps(t *testing.T) {
	r := rand.New(rand.NewSource(6))
	for range 400 {
		m := greatMap(r)
		expectTold(t, m, tellByTables(m))
	}
}

// The line is equally far from both shores, and each cell of water to which there is a way is one shore's, or on it; and
// islands that are given by count part the shores by no more islands than those that are near do, or by one (P5.6).
func TestLineAndCount(t *testing.T) {
	r := rand.New(rand.NewSource(7))
	for i := range 3000 {
		m := greatMap(r)
		if i%2 == 0 {
			m = manyIslands(r)
		}
		owners, e := river.Owners(m)
		west, f := river.Far(m, river.West)
		east, g := river.Far(m, river.East)
		islands, h := river.Islands(m)
		if e != api.OK || f != api.OK || g != api.OK || h != api.OK {
			t.Fatal(m, e, f, g, h)
		}
		for cell, kind := range m.Cells {
			isMet, isOn := west[cell] != none || east[cell] != none, isMet(west[cell], east[cell])
			switch {
			case kind == river.Water && isMet != (owners[cell] != river.Nobody):
				t.Error("water is Nobody's, or is not, by the ways to it:", m, cell, owners[cell])
			case kind == river.Water && isOn != (owners[cell] == river.Both):
				t.Error("the line is not equally far:", m, cell, owners[cell])
			case kind != river.Water && owners[cell] == river.Both:
				t.Error("the line is on land:", m, cell)
			}
		}
		var nears, all [4]int
		for _, s := range islands {
			all[s.Owner]++
			if s.Near {
				nears[s.Owner]++
			}
		}
		if apart(all) > max(1, apart(nears)) || nears[river.Nobody] > 0 {
			t.Error("islands part the shores:", m, islands)
		}
	}
}

// isMet reports whether ways from both shores meet in a cell that is so far from them.
func isMet(west, east int) bool { return west != none && west == east }

// apart returns by how many islands shores differ.
func apart(islands [4]int) int {
	return max(islands[river.West]-islands[river.East], islands[river.East]-islands[river.West])
}

// manyIslands returns a map with rows in which islands are equally far from both shores, or near to one of them.
func manyIslands(r *rand.Rand) river.Map {
	const land = "WW.EE"
	text := land
	for range 1 + r.Intn(5) {
		text += "/" + []string{"W.I.E", "W.I.E", "WI..E", "W..IE", "WI.IE"}[r.Intn(5)] + "/" + land
	}
	return drawn(text)
}

// Years are replayed as the chapter's terms say (P5.4, P5.5, P0.6).
func TestReplay(t *testing.T) {
	r := rand.New(rand.NewSource(8))
	var gained [4][4]int
	for i := range 1500 {
		m := smallMap(r)
		if i%10 == 0 {
			m = greatMap(r)
		}
		l := anyYears(r, m)
		for year := range l {
			changes, e := river.Changes(l, year)
			if !slices.EqualFunc(changes, changesOf(l, year), slices.Equal[[]int]) || e != api.OK {
				t.Error(l, year, changes, e)
			}
		}
		slow := r.Intn(8)
		want := replay(l, slow)
		if law, e := river.Law(l, slow); !slices.EqualFunc(law, want.law, areAlike) || e != api.OK {
			t.Error(l, slow, law, e, want.law)
		}
		gains, e := river.Gains(l, slow)
		if gains != want.gains || e != api.OK {
			t.Error(l, slow, gains, e, want.gains)
		}
		for cell, last := range want.last {
			if year, e := river.Last(l, slow, cell); year != last || e != api.OK {
				t.Error(l, slow, cell, year, e, last)
			}
		}
		for from, row := range gains {
			for to, cells := range row {
				gained[from][to] += cells
			}
		}
	}
	for from, row := range gained {
		for to, cells := range row {
			isRare := min(from, to) == river.Nobody && max(from, to) == river.Both // TestGains has these
			if from == to && cells > 0 || from != to && cells == 0 && !isRare {
				t.Error("too few gains of some kind were tried:", gained)
			}
		}
	}
}

// For which numbers a cell is an owner's is what the laws of all numbers tell (P5.5).
func TestAllSlows(t *testing.T) {
	r := rand.New(rand.NewSource(9))
	many := 0
	for range 150 {
		l := anyYears(r, smallMap(r))
		var owners [145][]int
		for slow := range owners {
			x := lawOf(l, slow)
			owners[slow] = tellByTables(x[len(x)-1]).owners
		}
		for cell := range l[0].Cells {
			for owner := range 4 {
				want := spansOf(func(slow int) bool { return owners[slow][cell] == owner })
				if s, e := river.Slows(l, cell, owner); !slices.Equal(s, want) || e != api.OK {
					t.Error(l, cell, owner, s, e, want)
				}
				if len(want) > 1 {
					many++
				}
			}
		}
	}
	if many < 30 {
		t.Error("too few cells with several spans were tried:", many)
	}
}

// With a number that is no less than any change has cells the map of the law is that of the year; with 0 it is that of
// the first year (P5.6).
func TestAllSlowAndAllSudden(t *testing.T) {
	r := rand.New(rand.NewSource(10))
	for range 1000 {
		l := anyYears(r, greatMap(r))
		greatest := 0
		for year := range l {
			for _, cells := range changesOf(l, year) {
				greatest = max(greatest, len(cells))
			}
		}
		for _, slow := range list(greatest, greatest+1, 144) {
			if law, e := river.Law(l, slow); !slices.EqualFunc(law, l, areAlike) || e != api.OK {
				t.Error(l, slow, law, e)
			}
		}
		if law, e := river.Law(l, 0); !slices.EqualFunc(law, slices.Repeat(l[:1], len(l)), areAlike) || e != api.OK {
			t.Error(l, law, e)
		}
	}
}

// Years that are replayed in two parts, parted at a year whose map is that of the law, give the same maps (P5.6).
func TestTwoParts(t *testing.T) {
	r := rand.New(rand.NewSource(11))
	parted := 0
	for range 2000 {
		l := anyYears(r, smallMap(r))
		slow := r.Intn(5)
		law, e := river.Law(l, slow)
		expect(t, "Law", e, api.OK)
		for year := range l {
			if !areAlike(law[year], l[year]) {
				continue
			}
			first, e := river.Law(l[:year+1], slow)
			second, f := river.Law(append([]river.Map{law[year]}, l[year+1:]...), slow)
			if !slices.EqualFunc(append(first, second[1:]...), law, areAlike) || e != api.OK || f != api.OK {
				t.Error(l, slow, year, first, second, law)
			}
			if year > 0 && year < len(l)-1 && !areAlike(l[year], l[0]) {
				parted++
			}
		}
	}
	if parted < 300 {
		t.Error("too few years were parted:", parted)
	}
}

// What is told of the years follows from what is told of the maps of the law (P5.5, P5.6).
func TestYearsFollowMaps(t *testing.T) {
	r := rand.New(rand.NewSource(12))
	for range 300 {
		l := anyYears(r, greatMap(r))
		slow := r.Intn(10)
		law, _ := river.Law(l, slow)
		before, _ := river.Owners(law[0])
		after, _ := river.Owners(law[len(l)-1])
		gains, e := river.Gains(l, slow)
		expect(t, "Gains", e, api.OK)
		expect(t, "CheckYears", river.CheckYears(law), api.OK)
		for owner := range 4 {
			var now, then int
			for cell := range before {
				if before[cell] == owner {
					then++
				}
				if after[cell] == owner {
					now++
				}
			}
			gained, lost := 0, 0
			for other := range 4 {
				gained, lost = gained+gains[other][owner], lost+gains[owner][other]
			}
			if gains[owner][owner] != 0 || now != then+gained-lost {
				t.Error("gains do not add up:", l, slow, owner, gains)
			}
		}
		cell := r.Intn(len(before))
		for owner := range 4 {
			s, e := river.Slows(l, cell, owner)
			isIn := slices.ContainsFunc(s, func(x api.Span) bool { return slow >= x.Lo && slow <= x.Hi })
			if isIn != (after[cell] == owner) || e != api.OK {
				t.Error(l, slow, cell, owner, s, e)
			}
		}
		if last, e := river.Last(l, slow, cell); e != api.OK || last == none && before[cell] != after[cell] {
			t.Error(l, slow, cell, last, e)
		}
	}
}
