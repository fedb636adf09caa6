package river_test

import (
	"slices"

	"limitrophe/api"
	"limitrophe/river"
)

// What follows finds what the chapter's terms name by other means: by all ways without a cell twice, or by tables that
// are filled until they stay as they are; and by names that cells give each other until all that hang together are alike.

// areNeighbours reports whether two cells are next to each other in a row, or in a column.
func areNeighbours(m river.Map, a, b int) bool {
	down, across := a/m.Wide-b/m.Wide, a%m.Wide-b%m.Wide
	return down*down+across*across == 1
}

// isLand reports whether a cell is land of one of some shores.
func isLand(m river.Map, cell int, shores ...int) bool { return slices.Contains(shores, m.Cells[cell]) }

// farByWays returns how far cells are from a shore, by all ways without a cell twice.
func farByWays(m river.Map, shore int) []int {
	far := slices.Repeat(list(none), len(m.Cells))
	var goOn func(way []int)
	goOn = func(way []int) {
		last := way[len(way)-1]
		if steps := len(way) - 1; far[last] == none || steps < far[last] {
			far[last] = steps
		}
		if len(way) > 1 && m.Cells[last] != river.Water {
			return
		}
		for next := range m.Cells {
			if areNeighbours(m, last, next) && !isLand(m, next, river.West, river.East) && !slices.Contains(way, next) {
				goOn(append(slices.Clone(way), next))
			}
		}
	}
	for cell := range m.Cells {
		if isLand(m, cell, shore) {
			goOn(list(cell))
		}
	}
	return far
}

// farByTables returns how far cells are from a shore, by a table that is filled until it stays as it is.
func farByTables(m river.Map, shore int) []int {
	far := slices.Repeat(list(none), len(m.Cells))
	for changed := true; changed; {
		changed = false
		for cell := range m.Cells {
			if number := numberOf(m, shore, far, cell); number != far[cell] {
				far[cell], changed = number, true
			}
		}
	}
	return far
}

// numberOf returns what a table that holds has for a cell if it has what it does for its neighbours.
func numberOf(m river.Map, shore int, table []int, cell int) int {
	if isLand(m, cell, shore) {
		return 0
	}
	least, found := 0, false
	for next := range m.Cells {
		leads := areNeighbours(m, cell, next) && (m.Cells[next] == river.Water || isLand(m, next, shore))
		if leads && table[next] != none && (!found || table[next] < least) {
			least, found = table[next], true
		}
	}
	if isLand(m, cell, river.West, river.East) || !found {
		return none
	}
	return least + 1
}

// doesHold reports whether a table holds for a shore.
func doesHold(m river.Map, shore int, table []int) bool {
	for cell := range m.Cells {
		if table[cell] != numberOf(m, shore, table, cell) {
			return false
		}
	}
	return true
}

// isWay reports whether cells are a way from a shore to a cell.
func isWay(m river.Map, shore, cell int, way []int) bool {
	if len(way) == 0 || !isLand(m, way[0], shore) || way[len(way)-1] != cell || isLand(m, cell, river.West, river.East) {
		return false
	}
	for i := 1; i < len(way); i++ {
		if !areNeighbours(m, way[i-1], way[i]) || i < len(way)-1 && m.Cells[way[i]] != river.Water {
			return false
		}
	}
	return true
}

// partsOf returns the lists of cells that hang together of those for which something holds.
func partsOf(m river.Map, holds func(cell int) bool) [][]int {
	names := make([]int, len(m.Cells))
	for cell := range names {
		names[cell] = cell
	}
	for changed := true; changed; {
		changed = false
		for a := range names {
			for b := range names {
				if holds(a) && holds(b) && areNeighbours(m, a, b) && names[b] < names[a] {
					names[a], changed = names[b], true
				}
			}
		}
	}
	var parts [][]int
	for first := range names {
		var part []int
		for cell, name := range names {
			if holds(cell) && name == first {
				part = append(part, cell)
			}
		}
		if len(part) > 0 {
			parts = append(parts, part)
		}
	}
	return parts
}

// leastOf returns the least number of a table for some cells, or none.
func leastOf(table, cells []int) int {
	least := none
	for _, cell := range cells {
		if table[cell] != none && (least == none || table[cell] < least) {
			least = table[cell]
		}
	}
	return least
}

// ownerOf returns whose is what is so far from both shores.
func ownerOf(west, east int) int {
	switch {
	case west == none && east == none:
		return river.Nobody
	case east == none:
		return river.West
	case west == none:
		return river.East
	case west < east:
		return river.West
	case west > east:
		return river.East
	}
	return river.Both
}

// told is what is so of a map.
type told struct {
	far     [3][]int // by shores
	islands [][]int  // the cells of each
	shares  []river.Share
	owners  []int
}

// tell finds what is so of a map, in which cells are so far from both shores.
func tell(m river.Map, west, east []int) told {
	x := told{far: [3][]int{nil, west, east}, owners: slices.Clone(m.Cells)}
	x.islands = partsOf(m, func(cell int) bool { return m.Cells[cell] == river.Island })
	var has [4]int
	for _, cells := range x.islands {
		owner := ownerOf(leastOf(west, cells), leastOf(east, cells))
		has[owner]++
		x.shares = append(x.shares, river.Share{First: cells[0], Owner: owner, Near: owner == river.West || owner == river.East})
	}
	for i, s := range x.shares {
		if s.Owner == river.Both {
			s.Owner = river.West
			if has[river.East] < has[river.West] {
				s.Owner = river.East
			}
			has[s.Owner]++
		}
		x.shares[i] = s
		for _, cell := range x.islands[i] {
			x.owners[cell] = s.Owner
		}
	}
	for cell, kind := range m.Cells {
		if kind == river.Water {
			x.owners[cell] = ownerOf(west[cell], east[cell])
		}
	}
	return x
}

// tellByWays and tellByTables find what is so of a map in their ways.
func tellByWays(m river.Map) told { return tell(m, farByWays(m, river.West), farByWays(m, river.East)) }
func tellByTables(m river.Map) told {
	return tell(m, farByTables(m, river.West), farByTables(m, river.East))
}

// changesOf returns the cells of each change of a year.
func changesOf(l []river.Map, year int) [][]int {
	if year == 0 {
		return nil
	}
	return partsOf(l[year], func(cell int) bool { return l[year].Cells[cell] != l[year-1].Cells[cell] })
}

// lawOf returns the map of the law of each year.
func lawOf(l []river.Map, slow int) []river.Map {
	law := []river.Map{copyOf(l[0])}
	for year := 1; year < len(l); year++ {
		m := copyOf(law[year-1])
		changes := changesOf(l, year)
		for cell := range m.Cells {
			for _, cells := range changes {
				if len(cells) <= slow && slices.Contains(cells, cell) {
					m.Cells[cell] = l[year].Cells[cell]
				}
			}
		}
		law = append(law, m)
	}
	return law
}

// replayed is what is so of years, for a number.
type replayed struct {
	law    []river.Map
	owners [][]int // of the map of the law of each year
	gains  [4][4]int
	last   []int // of each cell
}

// replay finds what is so of years, for a number.
func replay(l []river.Map, slow int) replayed {
	x := replayed{law: lawOf(l, slow)}
	for _, m := range x.law {
		x.owners = append(x.owners, tellByTables(m).owners)
	}
	for cell, owner := range x.owners[0] {
		if now := x.owners[len(l)-1][cell]; now != owner {
			x.gains[owner][now]++
		}
		last := none
		for year := 1; year < len(l); year++ {
			if x.owners[year][cell] != x.owners[year-1][cell] {
				last = year
			}
		}
		x.last = append(x.last, last)
	}
	return x
}

// spansOf returns the numbers from 0 to 144 for which something holds, as the fewest spans.
func spansOf(holds func(n int) bool) []api.Span {
	var l []api.Span
	for n := 0; n <= 144; n++ {
		switch {
		case !holds(n):
		case n > 0 && holds(n-1):
			l[len(l)-1].Hi = n
		default:
			l = append(l, span(n, n))
		}
	}
	return l
}
