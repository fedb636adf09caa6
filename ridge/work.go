package ridge

import (
	"cmp"
	"iter"
	"slices"

	"limitrophe/api"
)

// What a cell is of.
const (
	land = iota
	firstSea
	secondSea
)

// never is the pass from where no way leads to a sea. It is greater than all heights.
const never = MaxHeight + 1

// passes has a height of ways for each cell.
type passes [MaxCells]int

// marks marks cells.
type marks [MaxCells]bool

// work is a valid ground at work, with one end of all spans.
type work struct {
	Ground
	end  func(api.Span) int // which end of a span is taken
	met  marks              // the cells that the last search met
	from [MaxCells]int      // from which cell it met them, None if from the sea
}

// stage is a cell to which a search came, and the least height of the ways there.
type stage struct{ cell, pass int }

// look puts a valid ground to work.
func look(g Ground, end func(api.Span) int) *work { return &work{Ground: g, end: end} }

// low returns the lesser end of a span.
func low(s api.Span) int { return s.Lo }

// high returns the greater end of a span.
func high(s api.Span) int { return s.Hi }

// greatest returns the greatest one of heights.
func greatest(heights ...int) int { return slices.Max(heights) }

// anywhere lets all cells be entered.
func anywhere(int) bool { return true }

// neighbours yields the neighbours of a cell.
func (g Ground) neighbours(cell int) iter.Seq[int] {
	return func(yield func(int) bool) {
		for _, next := range [4]struct {
			cell int
			is   bool
		}{
			{cell - g.Wide, cell >= g.Wide},
			{cell - 1, cell%g.Wide > 0},
			{cell + 1, cell%g.Wide < g.Wide-1},
			{cell + g.Wide, cell+g.Wide < len(g.Seas)},
		} {
			if next.is && !yield(next.cell) {
				return
			}
		}
	}
}

// touches reports whether a cell has a neighbour of a sea.
func (g Ground) touches(cell, sea int) bool {
	for next := range g.neighbours(cell) {
		if g.Seas[next] == sea {
			return true
		}
	}
	return false
}

// known returns a ground of which a truth is all that can be.
func (g Ground) known(truth []int) Ground {
	heights := make([]api.Span, len(truth))
	for cell, height := range truth {
		heights[cell] = api.Span{Lo: height, Hi: height}
	}
	return Ground{Wide: g.Wide, Heights: heights, Seas: g.Seas}
}

// height returns the height of a cell.
func (w *work) height(cell int) int { return w.end(w.Heights[cell]) }

// heightOf returns the height of a way, which has a cell.
func (w *work) heightOf(way []int) int {
	var heights []int
	for _, cell := range way {
		heights = append(heights, w.height(cell))
	}
	return greatest(heights...)
}

// walk searches from a sea on, through land cells that can be entered, and yields each one to which that leads, with the
// least height of the ways between it and the sea. It goes on from the lowest cell that waits: so no cell that is met
// could be met from a lower one later.
func (w *work) walk(sea int, canEnter func(cell int) bool) iter.Seq2[int, int] {
	return func(yield func(int, int) bool) {
		waiting := queue[stage]{compare: func(a, b stage) int { return cmp.Compare(a.pass, b.pass) }}
		clear(w.met[:])
		meet := func(cell, from, pass int) {
			if w.Seas[cell] == land && !w.met[cell] && canEnter(cell) {
				w.met[cell], w.from[cell] = true, from
				waiting.put(stage{cell, greatest(pass, w.height(cell))})
			}
		}
		for cell := range w.Seas {
			if w.touches(cell, sea) {
				meet(cell, None, 0)
			}
		}
		for !waiting.isEmpty() {
			at := waiting.take()
			if !yield(at.cell, at.pass) {
				return
			}
			for next := range w.neighbours(at.cell) {
				meet(next, at.cell, at.pass)
			}
		}
	}
}

// passes returns the passes from all cells to a sea.
func (w *work) passes(sea int) passes {
	var list passes
	for cell := range list {
		list[cell] = never
	}
	for cell, pass := range w.walk(sea, anywhere) {
		list[cell] = pass
	}
	return list
}

// crossing returns a crossing of the least height through cells that can be entered, and its height, if there is one.
func (w *work) crossing(canEnter func(cell int) bool) (way []int, height int) {
	last := None
search:
	for cell, pass := range w.walk(firstSea, canEnter) {
		for next := range w.neighbours(cell) {
			if w.Seas[next] == secondSea {
				last, height = cell, pass
				break search
			}
		}
	}
	for cell := last; cell != None; cell = w.from[cell] {
		way = append(way, cell)
	}
	slices.Reverse(way)
	return way, height
}

// isCrossing reports whether land cells are a crossing.
func (g Ground) isCrossing(way []int) bool {
	if len(way) == 0 || !g.touches(way[0], firstSea) || !g.touches(way[len(way)-1], secondSea) {
		return false
	}
	for i := 1; i < len(way); i++ {
		if !g.areNeighbours(way[i-1], way[i]) {
			return false
		}
	}
	return true
}

// areNeighbours reports whether two cells are neighbours.
func (g Ground) areNeighbours(a, b int) bool {
	for next := range g.neighbours(a) {
		if next == b {
			return true
		}
	}
	return false
}

// parts reports whether each crossing has one of some land cells.
func (w *work) parts(cells []int) bool {
	var closed marks
	for _, cell := range cells {
		closed[cell] = true
	}
	way, _ := w.crossing(func(cell int) bool { return !closed[cell] })
	return len(way) == 0
}

// ridge returns a ridge of a height of which no cell can be left out, if all cells of at least that height are a ridge.
func (w *work) ridge(height int) []int {
	var cells []int
	for cell, sea := range w.Seas {
		if sea == land && w.height(cell) >= height {
			cells = append(cells, cell)
		}
	}
	parts := w.parts
	for i := len(cells) - 1; i >= 0; i-- {
		rest := slices.Delete(slices.Clone(cells), i, i+1)
		if parts(rest) {
			cells = rest
		}
	}
	return cells
}
