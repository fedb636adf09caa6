package enclave_test

import (
	"slices"

	"limitrophe/enclave"
)

// apart returns by how many columns and rows two plots of rows lie apart, together.
func apart(wide, a, b int) int {
	columns, rows := a%wide-b%wide, a/wide-b/wide
	return max(columns, -columns) + max(rows, -rows)
}

// isRim reports whether a plot is in the first or last row or column.
func isRim(m enclave.Map, plot int) bool {
	x, y, high := plot%m.Wide, plot/m.Wide, len(m.Owners)/m.Wide
	return x == 0 || x == m.Wide-1 || y == 0 || y == high-1
}

// regionsOf returns the number of the region of each plot: each takes the first one of the plots with which it hangs
// together, neighbour by neighbour, until nothing changes.
func regionsOf(m enclave.Map) []int {
	leasts := make([]int, len(m.Owners))
	for plot := range leasts {
		leasts[plot] = plot
	}
	for again := true; again; {
		again = false
		for a := range leasts {
			for b := range leasts {
				if apart(m.Wide, a, b) == 1 && m.Owners[a] == m.Owners[b] && leasts[a] > leasts[b] {
					leasts[a], again = leasts[b], true
				}
			}
		}
	}
	firsts := slices.Compact(slices.Sorted(slices.Values(leasts)))
	for plot, least := range leasts {
		leasts[plot] = slices.Index(firsts, least)
	}
	return leasts
}

// many returns how many regions there are.
func many(regions []int) int { return slices.Max(regions) + 1 }

// hasWayOut reports whether a region has a way out without another one: plots get out at the rim, and by neighbours that
// get out, until nothing changes.
func hasWayOut(m enclave.Map, regions []int, region, without int) bool {
	out := make([]bool, len(regions))
	for again := true; again; {
		again = false
		for a := range out {
			if out[a] || regions[a] == without {
				continue
			}
			gets := isRim(m, a)
			for _, b := range list(a-m.Wide, a-1, a+1, a+m.Wide) {
				gets = gets || b >= 0 && b < len(out) && apart(m.Wide, a, b) == 1 && out[b]
			}
			out[a], again = gets, again || gets
		}
	}
	for plot, is := range out {
		if is && regions[plot] == region {
			return true
		}
	}
	return false
}

// isWayOut reports whether plots are a way out, word by word.
func isWayOut(m enclave.Map, regions []int, region, without int, way []int) bool {
	for i, plot := range way {
		if regions[plot] == without || i == 0 && regions[plot] != region || i > 0 && apart(m.Wide, plot, way[i-1]) != 1 {
			return false
		}
	}
	return len(way) > 0 && isRim(m, way[len(way)-1])
}

// surroundings returns for each region those within which it lies.
func surroundings(m enclave.Map, regions []int) [][]int {
	all := make([][]int, many(regions))
	for region := range all {
		for other := range all {
			if other != region && !hasWayOut(m, regions, region, other) {
				all[region] = append(all[region], other)
			}
		}
	}
	return all
}

// aroundOf returns for each region the one of those within which it lies that lies within all others of them.
func aroundOf(surroundings [][]int) []int {
	var around []int
	for _, outer := range surroundings {
		around = append(around, none)
		for _, one := range outer {
			isInAll := true
			for _, other := range outer {
				isInAll = isInAll && (other == one || slices.Contains(surroundings[one], other))
			}
			if isInAll {
				around[len(around)-1] = one
			}
		}
	}
	return around
}

// housesBetween returns how many houses there are between two plots.
func housesBetween(l enclave.Land, a, b int) int {
	a, b = min(a, b), max(a, b)
	switch {
	case apart(l.Wide, a, b) != 1:
		return 0
	case a/l.Wide == b/l.Wide:
		return l.East[a]
	}
	return l.South[a]
}

// cutBy returns how many houses owners cut.
func cutBy(l enclave.Land, owners []int) int {
	cut := 0
	for b := range owners {
		for a := range b {
			if owners[a] != owners[b] {
				cut += housesBetween(l, a, b)
			}
		}
	}
	return cut
}

// isDivision reports whether owners are a division of a land.
func isDivision(l enclave.Land, owners []int) bool {
	for plot, owner := range owners {
		if owner != 0 && owner != 1 || l.Owners[plot] >= 0 && l.Owners[plot] != owner {
			return false
		}
	}
	return len(owners) == len(l.Owners)
}

// divisions returns all divisions of a land.
func divisions(l enclave.Land) [][]int {
	all := [][]int{nil}
	for _, owner := range l.Owners {
		var longer [][]int
		for _, owners := range all {
			for state := range 2 {
				if owner == none || owner == state {
					longer = append(longer, append(slices.Clone(owners), state))
				}
			}
		}
		all = longer
	}
	return all
}

// fewestCut returns how many houses are cut at least, and by how many divisions.
func fewestCut(l enclave.Land) (fewest, by int) {
	for _, owners := range divisions(l) {
		switch cut := cutBy(l, owners); {
		case by == 0 || cut < fewest:
			fewest, by = cut, 1
		case cut == fewest:
			by++
		}
	}
	return fewest, by
}

// provenBy returns of how many families walks are, and whether they are walks, gone by no more families than houses.
func provenBy(l enclave.Land, walks []enclave.Walk) (families int, are bool) {
	gone := make([][]int, len(l.Owners))
	for plot := range gone {
		gone[plot] = make([]int, len(gone))
	}
	for _, w := range walks {
		if len(w.Plots) == 0 || w.Many < 1 || w.Many > 1000 || l.Owners[w.Plots[0]] != 0 || l.Owners[w.Plots[len(w.Plots)-1]] != 1 {
			return 0, false
		}
		families += w.Many
		for i, plot := range w.Plots[1:] {
			if apart(l.Wide, w.Plots[i], plot) != 1 {
				return 0, false
			}
			gone[plot][w.Plots[i]] += w.Many
		}
	}
	for a := range gone {
		for b := range gone {
			if gone[a][b]+gone[b][a] > housesBetween(l, a, b) {
				return 0, false
			}
		}
	}
	return families, true
}
