package enclave

import (
	"iter"
	"slices"
)

// marks marks plots, or regions.
type marks [MaxPlots]bool

// work is a valid map at work, on which one goes from plot to plot.
type work struct {
	Map
	met  marks         // the plots that the last search met
	from [MaxPlots]int // from which plot it met them, None if it began there
}

// neighbours yields the neighbours of a plot.
func (m Map) neighbours(plot int) iter.Seq[int] {
	return func(yield func(int) bool) {
		column := plot % m.Wide
		for _, next := range [4]struct {
			plot int
			is   bool
		}{
			{plot - m.Wide, plot >= m.Wide},
			{plot - 1, column > 0},
			{plot + 1, column < m.Wide-1},
			{plot + m.Wide, plot+m.Wide < len(m.Owners)},
		} {
			if next.is && !yield(next.plot) {
				return
			}
		}
	}
}

// which yields the plots of which something holds.
func (m Map) which(holds func(plot int) bool) iter.Seq[int] {
	return func(yield func(int) bool) {
		for plot := range m.Owners {
			if holds(plot) && !yield(plot) {
				return
			}
		}
	}
}

// goesOn reports whether each plot of a list but the first is a neighbour of the one before.
func (m Map) goesOn(plots []int) bool {
	for i := 1; i < len(plots); i++ {
		if !m.areNeighbours(plots[i-1], plots[i]) {
			return false
		}
	}
	return true
}

// areNeighbours reports whether two plots are neighbours.
func (m Map) areNeighbours(a, b int) bool {
	for next := range m.neighbours(a) {
		if next == b {
			return true
		}
	}
	return false
}

// walk searches from some plots on, wherever one can go from a plot to its neighbour, and yields each plot to which that
// leads; those that fewer steps lead to come first.
func (w *work) walk(starts iter.Seq[int], canGo func(from, to int) bool) iter.Seq[int] {
	return func(yield func(int) bool) {
		var waiting queue[int]
		clear(w.met[:])
		meet := func(plot, from int) {
			w.met[plot], w.from[plot] = true, from
			waiting.put(plot)
		}
		for plot := range starts {
			meet(plot, None)
		}
		for !waiting.isEmpty() {
			at := waiting.take()
			if !yield(at) {
				return
			}
			for next := range w.neighbours(at) {
				if !w.met[next] && canGo(at, next) {
					meet(next, at)
				}
			}
		}
	}
}

// wayTo returns the plots along which the last search came to a plot that it met.
func (w *work) wayTo(plot int) []int {
	var way []int
	for ; plot != None; plot = w.from[plot] {
		way = append(way, plot)
	}
	slices.Reverse(way)
	return way
}
