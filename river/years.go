package river

import (
	"slices"

	"limitrophe/api"
)

// past is valid years at work.
type past struct {
	years   []Map
	changes [][][]int // of each year
}

// recall puts valid years to work.
func recall(l []Map) past {
	p := past{years: l, changes: make([][][]int, len(l))}
	for year := 1; year < len(l); year++ {
		p.changes[year] = changes(l[year-1], l[year])
	}
	return p
}

// changes returns the cells that hang together of those that are otherwise in one of two valid maps.
func changes(before, after Map) [][]int {
	isOtherwise := func(cell int) bool { return before.Cells[cell] != after.Cells[cell] }
	return together(after.which(isOtherwise), after.neighbours)
}

// law returns the map of the law of each year.
func (p past) law(slow int) []Map {
	list := make([]Map, len(p.years))
	cells := p.years[0].Cells
	for year, m := range p.years {
		cells = slices.Clone(cells)
		for _, change := range p.changes[year] {
			if len(change) > slow {
				continue
			}
			for _, cell := range change {
				cells[cell] = m.Cells[cell]
			}
		}
		list[year] = Map{Wide: m.Wide, High: m.High, Cells: cells}
	}
	return list
}

// owners returns whose cells are in the map of the law of each year.
func (p past) owners(slow int) [][]int {
	var list [][]int
	for _, m := range p.law(slow) {
		list = append(list, m.owners())
	}
	return list
}

// gains returns how many cells were one's in the first year, and are another one's in the last one.
func (p past) gains(slow int) [4][4]int {
	law := p.law(slow)
	before, after := law[0].owners(), law[len(law)-1].owners()
	var list [4][4]int
	for cell, owner := range before {
		if owner != after[cell] {
			list[owner][after[cell]]++
		}
	}
	return list
}

// last returns the last year in which a cell is another one's than in the one ahead of it, or None.
func (p past) last(slow, cell int) int {
	owners := p.owners(slow)
	for year := len(owners) - 1; year > 0; year-- {
		if owners[year][cell] != owners[year-1][cell] {
			return year
		}
	}
	return None
}

// slows returns the numbers for which a cell is an owner's in the map of the law of the last year.
func (p past) slows(cell, owner int) []api.Span {
	var list []api.Span
	is := false
	for slow := range maxSlow + 1 {
		// From one number to the next the law is another one only if there is a change of so many cells.
		if slow == 0 || p.hasChange(slow) {
			law := p.law(slow)
			is = law[len(law)-1].owners()[cell] == owner
		}
		last := len(list) - 1
		switch {
		case is && last >= 0 && list[last].Hi == slow-1:
			list[last].Hi = slow
		case is:
			list = append(list, api.Span{Lo: slow, Hi: slow})
		}
	}
	return list
}

// hasChange reports whether some change has so many cells.
func (p past) hasChange(cells int) bool {
	isSo := func(change []int) bool { return len(change) == cells }
	for _, l := range p.changes {
		if slices.ContainsFunc(l, isSo) {
			return true
		}
	}
	return false
}
