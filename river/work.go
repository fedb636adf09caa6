package river

import (
	"cmp"
	"iter"
	"slices"
)

// work is a valid map at work, with one of the shores.
type work struct {
	Map
	counts func(cell int) bool // whether a cell is land of the shore that counts
}

// look puts a valid map to work with a shore.
func look(m Map, shore int) work {
	return work{m, func(cell int) bool { return m.Cells[cell] == shore }}
}

// neighbours yields the neighbours of a cell.
func (m Map) neighbours(cell int) iter.Seq[int] {
	return func(yield func(int) bool) {
		for _, next := range [4]struct {
			cell int
			is   bool
		}{
			{cell - m.Wide, cell >= m.Wide},
			{cell - 1, cell%m.Wide > 0},
			{cell + 1, cell%m.Wide < m.Wide-1},
			{cell + m.Wide, cell+m.Wide < len(m.Cells)},
		} {
			if next.is && !yield(next.cell) {
				return
			}
		}
	}
}

// which returns the cells for which something holds, in increasing order.
func (m Map) which(holds func(cell int) bool) []int {
	var list []int
	for cell := range m.Cells {
		if holds(cell) {
			list = append(list, cell)
		}
	}
	return list
}

// only yields those of some cells for which something holds.
func only(cells iter.Seq[int], holds func(cell int) bool) iter.Seq[int] {
	return func(yield func(int) bool) {
		for cell := range cells {
			if holds(cell) && !yield(cell) {
				return
			}
		}
	}
}

// together parts a list in increasing order into the lists of those that hang together. These are in increasing order,
// too, and come in the order of their first ones.
func together[T cmp.Ordered](list []T, neighbours func(T) iter.Seq[T]) [][]T {
	waits := map[T]bool{}
	for _, x := range list {
		waits[x] = true
	}
	var parts [][]T
	for _, first := range list {
		if !waits[first] {
			continue
		}
		var part []T
		var follow func(x T)
		follow = func(x T) {
			waits[x] = false
			part = append(part, x)
			for next := range neighbours(x) {
				if waits[next] {
					follow(next)
				}
			}
		}
		follow(first)
		slices.Sort(part)
		parts = append(parts, part)
	}
	return parts
}

// least returns the least of numbers that are not None, or None if there are none.
func least(numbers ...int) int {
	found := None
	for _, n := range numbers {
		if n != None && (found == None || n < found) {
			found = n
		}
	}
	return found
}

// leadsOn reports whether a way from the shore can go on from a cell.
func (w work) leadsOn(cell int) bool { return w.Cells[cell] == Water || w.counts(cell) }

// ahead yields the neighbours of a cell that can be ahead of it on a way from the shore.
func (w work) ahead(cell int) iter.Seq[int] { return only(w.neighbours(cell), w.leadsOn) }

// far returns how far cells are from the shore.
func (w work) far() []int {
	table := slices.Repeat([]int{None}, len(w.Cells))
	last := w.which(w.counts)
	for _, cell := range last {
		table[cell] = 0
	}
	isNew := func(cell int) bool { return table[cell] == None && !isShore(w.Cells[cell]) }
	for steps := range len(w.Cells) {
		var next []int
		for _, cell := range last {
			for met := range only(w.neighbours(cell), isNew) {
				table[met] = steps + 1
				next = append(next, met)
			}
		}
		last = slices.Collect(only(slices.Values(next), w.leadsOn))
	}
	return table
}

// holds reports whether a table of a number for each cell does.
func (w work) holds(table []int) bool {
	for cell, number := range table {
		if number != w.follows(table, cell) {
			return false
		}
	}
	return true
}

// follows returns which number a cell must have in a table in which its neighbours have theirs.
func (w work) follows(table []int, cell int) int {
	if w.counts(cell) {
		return 0
	}
	if isShore(w.Cells[cell]) {
		return None
	}
	var numbers []int
	for next := range w.ahead(cell) {
		numbers = append(numbers, table[next])
	}
	if number := least(numbers...); number != None {
		return number + 1
	}
	return None
}

// way returns a shortest way from the shore to a cell, or nothing if there is none, or the cell is land.
func (w work) way(cell int) []int {
	table := w.far()
	if table[cell] == None || w.counts(cell) {
		return nil
	}
	way := make([]int, table[cell]+1)
	for place := table[cell]; place > 0; place-- {
		way[place] = cell
		for next := range w.ahead(cell) {
			if table[next] == place-1 {
				cell = next
				break
			}
		}
	}
	way[0] = cell
	return way
}
