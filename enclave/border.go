package enclave

import (
	"iter"
	"maps"
	"slices"
)

// The two states of a land.
const (
	first = iota
	second
)

// direction is one of the two to which houses look.
type direction struct {
	houses func(Land) []int    // which numbers of houses look there from the plots
	isLast func(plot int) bool // whether a plot has no neighbour there
	step   int                 // by how much the number of the neighbour there is greater
}

// side is the one that two neighbours have in common, as it is passed from one of them to the other one.
type side struct{ from, to int }

// border is a valid land at work, through which as many families go as can.
type border struct {
	work
	houses map[side]int // how many there are at each side, whichever way it is passed
	left   map[side]int // how many more families can pass: each that goes back lets one more go
}

// east returns the numbers of houses that look to the east.
func east(l Land) []int { return l.East }

// south returns the numbers of houses that look to the south.
func south(l Land) []int { return l.South }

// plots returns the map of a land.
func (l Land) plots() Map { return Map{Wide: l.Wide, Owners: l.Owners} }

// directions returns the two to which houses look.
func (l Land) directions() [2]direction {
	return [2]direction{
		{houses: east, isLast: func(plot int) bool { return plot%l.Wide == l.Wide-1 }, step: 1},
		{houses: south, isLast: func(plot int) bool { return plot+l.Wide >= len(l.Owners) }, step: l.Wide},
	}
}

// sides yields the sides that neighbours have in common, each once, with the houses between these.
func (l Land) sides() iter.Seq2[side, int] {
	return func(yield func(side, int) bool) {
		for _, d := range l.directions() {
			for plot, houses := range d.houses(l) {
				if !d.isLast(plot) && !yield(side{plot, plot + d.step}, houses) {
					return
				}
			}
		}
	}
}

// turned returns a side as it is passed the other way.
func (s side) turned() side { return side{s.to, s.from} }

// isDivision reports whether as many owners as there are plots are a division.
func (l Land) isDivision(owners []int) bool {
	for plot, owner := range owners {
		if !between(owner, first, second) || l.Owners[plot] != None && l.Owners[plot] != owner {
			return false
		}
	}
	return true
}

// cost returns how many houses a division cuts.
func (l Land) cost(owners []int) int {
	var cut []int
	for s, houses := range l.sides() {
		if owners[s.from] != owners[s.to] {
			cut = append(cut, houses)
		}
	}
	return sum(cut...)
}

// draw puts a valid land to work, and lets the families go.
func draw(l Land) *border {
	b := &border{work: work{Map: l.plots()}, houses: map[side]int{}}
	for s, houses := range l.sides() {
		b.houses[s], b.houses[s.turned()] = houses, houses
	}
	b.left = maps.Clone(b.houses)
	for walk := range b.more(b.left) {
		for s := range walk.sides() {
			b.left[s] -= walk.Many
			b.left[s.turned()] += walk.Many
		}
	}
	return b
}

// sides yields the sides that a walk passes.
func (w Walk) sides() iter.Seq[side] {
	return func(yield func(side) bool) {
		for i := 1; i < len(w.Plots); i++ {
			if !yield(side{w.Plots[i-1], w.Plots[i]}) {
				return
			}
		}
	}
}

// reached yields the plots to which one more family gets from the first state along sides that have some left.
func (b *border) reached(left map[side]int) iter.Seq[int] {
	starts := b.which(func(plot int) bool { return b.Owners[plot] == first })
	return b.walk(starts, func(from, to int) bool { return left[side{from, to}] > 0 })
}

// more yields one more walk of families along sides that have some left, again and again, until there is none. Whoever gets
// a walk has to take its families from what is left.
func (b *border) more(left map[side]int) iter.Seq[Walk] {
	return func(yield func(Walk) bool) {
	search:
		for {
			for plot := range b.reached(left) {
				if b.Owners[plot] != second {
					continue
				}
				if !yield(fullest(b.wayTo(plot), left)) {
					return
				}
				continue search
			}
			return
		}
	}
}

// fullest returns the walk along plots that is gone by as many families as can.
func fullest(plots []int, left map[side]int) Walk {
	walk := Walk{Plots: plots}
	var numbers []int
	for s := range walk.sides() {
		numbers = append(numbers, left[s])
	}
	walk.Many = slices.Min(numbers)
	return walk
}

// division returns the one in which all plots that one more family would reach belong to the first state. At each side that
// it cuts none can pass any more, and none went back: so it cuts as many houses as there are families.
func (b *border) division() []int {
	owners := slices.Repeat([]int{second}, len(b.Owners))
	for plot := range b.reached(b.left) {
		owners[plot] = first
	}
	return owners
}

// walks returns the walks of all families. Each of them takes the last families of some side.
func (b *border) walks() []Walk {
	gone := map[side]int{}
	for s, houses := range b.houses {
		gone[s] = max(0, houses-b.left[s])
	}
	var walks []Walk
	for walk := range b.more(gone) {
		for s := range walk.sides() {
			gone[s] -= walk.Many
		}
		walks = append(walks, walk)
	}
	return walks
}

// isWalk reports whether a walk goes along plots from one of the first state to one of the second.
func (l Land) isWalk(w Walk) bool {
	n := len(w.Plots)
	return n > 0 && l.Owners[w.Plots[0]] == first && l.Owners[w.Plots[n-1]] == second && l.plots().goesOn(w.Plots)
}

// holds reports whether walks along plots are gone by no more families than there are houses.
func (l Land) holds(walks []Walk) bool {
	gone := map[side]int{}
	for _, walk := range walks {
		for s := range walk.sides() {
			gone[s] += walk.Many
		}
	}
	for s, houses := range l.sides() {
		if sum(gone[s], gone[s.turned()]) > houses {
			return false
		}
	}
	return true
}

// families returns of how many families walks are.
func families(walks []Walk) int {
	var numbers []int
	for _, walk := range walks {
		numbers = append(numbers, walk.Many)
	}
	return sum(numbers...)
}

// sum returns the sum of numbers.
func sum(numbers ...int) int {
	all := 0
	for _, n := range numbers {
		all += n
	}
	return all
}
