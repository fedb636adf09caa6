package ridge_test

import (
	"iter"
	"slices"

	"limitrophe/api"
	"limitrophe/ridge"
)

// What follows finds all that the chapter's terms name by looking at all ways without a cell twice, in all truths.

// none is where there is no height.
const none = -1

// areNeighbours reports whether two cells have a side in common.
func areNeighbours(g ridge.Ground, a, b int) bool {
	down, across := a/g.Wide-b/g.Wide, a%g.Wide-b%g.Wide
	return down*down+across*across == 1
}

// isOnShore reports whether a cell has a neighbour of a sea.
func isOnShore(g ridge.Ground, cell, sea int) bool {
	for other, s := range g.Seas {
		if s == sea && areNeighbours(g, cell, other) {
			return true
		}
	}
	return false
}

// waysFrom returns all ways from a cell to a sea.
func waysFrom(g ridge.Ground, cell, sea int) [][]int {
	var ways [][]int
	var goOn func(way []int)
	goOn = func(way []int) {
		last := way[len(way)-1]
		if isOnShore(g, last, sea) {
			ways = append(ways, slices.Clone(way))
		}
		for next := range g.Seas {
			if g.Seas[next] == 0 && areNeighbours(g, last, next) && !slices.Contains(way, next) {
				goOn(append(slices.Clone(way), next))
			}
		}
	}
	if g.Seas[cell] == 0 {
		goOn(list(cell))
	}
	return ways
}

// crossingsOf returns all crossings without a cell twice.
func crossingsOf(g ridge.Ground) [][]int {
	var ways [][]int
	for cell := range g.Seas {
		if isOnShore(g, cell, 1) {
			ways = append(ways, waysFrom(g, cell, 2)...)
		}
	}
	return ways
}

// isCrossing reports whether land cells are a crossing.
func isCrossing(g ridge.Ground, way []int) bool {
	if len(way) == 0 || !isOnShore(g, way[0], 1) || !isOnShore(g, way[len(way)-1], 2) {
		return false
	}
	for i := range way[1:] {
		if !areNeighbours(g, way[i], way[i+1]) {
			return false
		}
	}
	return true
}

// heightOf returns the height of a way.
func heightOf(way, truth []int) int {
	height := 0
	for _, cell := range way {
		height = max(height, truth[cell])
	}
	return height
}

// leastOf returns the least height of ways, or none.
func leastOf(ways [][]int, truth []int) int {
	least := none
	for _, way := range ways {
		if height := heightOf(way, truth); least == none || height < least {
			least = height
		}
	}
	return least
}

// endsOf returns the truth of all Los, and that of all His.
func endsOf(g ridge.Ground) (los, his []int) {
	for _, s := range g.Heights {
		los, his = append(los, s.Lo), append(his, s.Hi)
	}
	return los, his
}

// truthsOf yields all truths of the land.
func truthsOf(g ridge.Ground) iter.Seq[[]int] {
	return func(yield func([]int) bool) {
		truth, _ := endsOf(g)
		for {
			if !yield(truth) {
				return
			}
			cell := 0
			for cell < len(truth) && (g.Seas[cell] > 0 || truth[cell] == g.Heights[cell].Hi) {
				truth[cell] = g.Heights[cell].Lo
				cell++
			}
			if cell == len(truth) {
				return
			}
			truth[cell]++
		}
	}
}

// drainOf returns how a cell drains from which so high passes lead.
func drainOf(sea, first, second int) ridge.Drain {
	switch {
	case sea > 0:
		return ridge.Drain(sea) // First is 1, and Second 2
	case first == none && second == none:
		return ridge.Dry
	case second == none:
		return ridge.First
	case first == none:
		return ridge.Second
	case first < second:
		return ridge.First
	case first > second:
		return ridge.Second
	}
	return ridge.Even
}

// told is what all truths tell of a ground.
type told struct {
	crossings [][]int
	passes    [3][]api.Span // by the number of the sea
	saddle    api.Span
	saddles   []int
	sides     []ridge.Side
	doubt     []int
	drains    [][]ridge.Drain // of each truth, in the order of truthsOf
}

// widen puts a height into a span that has none, or some.
func widen(s api.Span, height int) api.Span {
	if s == span(none, none) {
		return span(height, height)
	}
	return span(min(s.Lo, height), max(s.Hi, height))
}

// tell looks at all truths of a ground.
func tell(g ridge.Ground) told {
	cells := len(g.Seas)
	t := told{crossings: crossingsOf(g), saddle: span(none, none), sides: make([]ridge.Side, cells)}
	var ways [3][][][]int
	for sea := 1; sea < 3; sea++ {
		t.passes[sea] = slices.Repeat([]api.Span{span(none, none)}, cells)
		for cell := range cells {
			ways[sea] = append(ways[sea], waysFrom(g, cell, sea))
		}
	}
	isSaddle := make([]bool, cells)
	for truth := range truthsOf(g) {
		saddle := leastOf(t.crossings, truth)
		t.saddle = widen(t.saddle, saddle)
		drains := make([]ridge.Drain, cells)
		for cell := range cells {
			first, second := leastOf(ways[1][cell], truth), leastOf(ways[2][cell], truth)
			t.passes[1][cell], t.passes[2][cell] = widen(t.passes[1][cell], first), widen(t.passes[2][cell], second)
			drains[cell] = drainOf(g.Seas[cell], first, second)
			mark(&t.sides[cell], drains[cell])
			if saddle != none && first != none && second != none && truth[cell] == saddle && max(first, second) == saddle {
				isSaddle[cell] = true
			}
		}
		t.drains = append(t.drains, drains)
	}
	for cell := range cells {
		if isSaddle[cell] {
			t.saddles = append(t.saddles, cell)
		}
		if many(t.sides[cell]) > 1 {
			t.doubt = append(t.doubt, cell)
		}
	}
	return t
}

// mark lets a side have how a cell drains.
func mark(s *ridge.Side, d ridge.Drain) {
	s.First = s.First || d == ridge.First
	s.Second = s.Second || d == ridge.Second
	s.Even = s.Even || d == ridge.Even
}

// many returns in how many ways a cell can drain.
func many(s ridge.Side) int {
	n := 0
	for _, is := range []bool{s.First, s.Second, s.Even} {
		if is {
			n++
		}
	}
	return n
}

// allMet reports whether each crossing has one of some cells.
func allMet(crossings [][]int, cells []int) bool {
	for _, way := range crossings {
		if !slices.ContainsFunc(way, func(cell int) bool { return slices.Contains(cells, cell) }) {
			return false
		}
	}
	return true
}

// passesOf returns the passes in a truth to a sea, of grounds that are too great for a look at all ways: no pass can be
// made lower by going to a neighbour first.
func passesOf(g ridge.Ground, truth []int, sea int) []int {
	passes := slices.Repeat(list(none), len(truth))
	for changed := true; changed; {
		changed = false
		for cell := range truth {
			if g.Seas[cell] > 0 {
				continue
			}
			least := passes[cell]
			for next := range truth {
				switch {
				case !areNeighbours(g, cell, next):
				case g.Seas[next] == sea:
					least = truth[cell]
				case passes[next] != none && (least == none || max(truth[cell], passes[next]) < least):
					least = max(truth[cell], passes[next])
				}
			}
			if least != passes[cell] {
				passes[cell], changed = least, true
			}
		}
	}
	return passes
}

// saddleOf returns the height of the saddle in a truth, or none.
func saddleOf(g ridge.Ground, truth []int) int {
	least := none
	for cell, pass := range passesOf(g, truth, 2) {
		if isOnShore(g, cell, 1) && pass != none && (least == none || pass < least) {
			least = pass
		}
	}
	return least
}

// isMet reports whether each crossing has one of some cells, by cells to which ways lead without any of them.
func isMet(g ridge.Ground, cells []int) bool {
	reached := make([]bool, len(g.Seas))
	for changed := true; changed; {
		changed = false
		for cell := range reached {
			if g.Seas[cell] > 0 || reached[cell] || slices.Contains(cells, cell) {
				continue
			}
			for other := range reached {
				if areNeighbours(g, cell, other) && (g.Seas[other] == 1 || reached[other]) {
					reached[cell], changed = true, true
				}
			}
			if reached[cell] && isOnShore(g, cell, 2) {
				return false
			}
		}
	}
	return true
}
