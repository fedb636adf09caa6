package barter

import "slices"

// work is a valid land at work, of which the North gets more and more by a measure.
type work struct {
	Land
	counts func(Stretch) int // what a whole stretch counts by the measure
}

// worthNorth and worthBoth tell what a stretch counts.
func worthNorth(s Stretch) int { return s.North }
func worthBoth(s Stretch) int  { return s.North + s.South }

// byNorth puts a valid land to work by the North's measure.
func byNorth(l Land) *work { return &work{Land: l, counts: worthNorth} }

// byBoth puts a valid land to work so that what counts is by how much the North gains more than the South: if the North
// gets a stretch, it gains what that is worth to it, and the South loses what it is worth to the South.
func byBoth(l Land) *work { return &work{Land: l, counts: worthBoth} }

// byOrder returns the exchange by order by which the North gets so much more than it gives, by the measure that counts,
// and whether there is one; if it gets more even with no part of a free stretch, that is the one.
func (w *work) byOrder(more int) (Exchange, bool) {
	given := func(owner int) int {
		all := 0
		for stretch := range w.free() {
			if s := w.Stretches[stretch]; s.Owner == owner {
				all += w.counts(s)
			}
		}
		return all
	}
	if more > given(South) {
		return Exchange{}, false
	}
	needs := max(more, -given(North)) + given(North)
	order := w.order()
	worths := w.worthsOf(order)
	lacks := func(firsts int) int { return needs - sum(worths[:firsts]...) }
	firsts := 0
	for firsts < len(order) && lacks(firsts+1) >= 0 {
		firsts++
	}
	x := w.uncut(order, firsts)
	if lacks(firsts) == 0 {
		return x, true
	}
	parts, whole := lowest(lacks(firsts), worths[firsts])
	return x.cut(order[firsts], parts, whole), true
}

// worthsOf returns what stretches count.
func (w *work) worthsOf(stretches []int) []int {
	worths := make([]int, len(stretches))
	for i, stretch := range stretches {
		worths[i] = w.counts(w.Stretches[stretch])
	}
	return worths
}

// uncut returns the exchange in which the North has so many first ones of the free stretches, which are in their order,
// and none of the others.
func (w *work) uncut(order []int, firsts int) Exchange {
	places := map[int]int{}
	for place, stretch := range order {
		places[stretch] = place
	}
	x := w.now()
	for stretch := range w.free() {
		x.Parts[stretch] = 0
		if places[stretch] < firsts {
			x.Parts[stretch] = 1
		}
	}
	return x
}

// cut returns an exchange that cuts none so that it cuts a stretch, of which the North has some parts of a whole.
func (x Exchange) cut(stretch, parts, whole int) Exchange {
	all := slices.Clone(x.Parts)
	for i := range all {
		all[i] *= whole
	}
	all[stretch] = parts
	return Exchange{Whole: whole, Parts: all}
}

// sum returns the sum of numbers.
func sum(numbers ...int) int {
	all := 0
	for _, n := range numbers {
		all += n
	}
	return all
}
