package strip

import (
	"slices"

	"limitrophe/api"
)

// canLie reports whether a stretch can lie on a point: each place of its hull is between places of its two boxes.
func (w *work) canLie(number int, p api.Point) bool { return w.hulls[number].holds(p) }

// place returns a point's place.
func (w *work) place(p api.Point) Place {
	switch {
	case !w.canHit(p):
		return w.side(p)
	case w.canMiss(p):
		return Strip
	}
	return On
}

// canHit reports whether the line lies on a point in some truth.
func (w *work) canHit(p api.Point) bool {
	canLie := w.canLie
	for number := range len(w.hulls) {
		if canLie(number, p) {
			return true
		}
	}
	return false
}

// side returns the side of a point that is on no stretch in any truth. Truths lead into each other without a jump, so
// that any one will do: here all pillars stand in the south-west. The line is crossed on the way due south.
func (w *work) side(p api.Point) Place {
	side := Outer
	for _, s := range w.stretches() {
		from, to := s[0], s[4]
		overlaps := (from.X > p.X) != (to.X > p.X)
		isBelow := (turn(from, to, p) > 0) == (from.X < to.X)
		if overlaps && isBelow {
			side = Inner - side
		}
	}
	return side
}

// canMiss reports whether the line does not lie on a point in some truth. It misses the point if no pillar stands
// there, and no two that follow each other stand in opposite directions from it. The ends of an open line are so far
// away that they are due west and due east.
func (w *work) canMiss(p api.Point) bool {
	var steps [][]api.Point
	for number := range len(w.Pillars) {
		steps = append(steps, directions(w.Pillars[number], p))
	}
	if !w.Closed {
		return passes(api.Point{X: -1}, steps, api.Point{X: 1})
	}
	return slices.ContainsFunc(steps[0], func(first api.Point) bool { return passes(first, steps[1:], first) })
}

// directions returns the directions from a point in which a pillar can stand that does not stand on the point. If there
// are infinitely many of them, one is left that is opposite to none of its two neighbours', whichever these are: then
// 0, 0 stands for it.
func directions(b Box, p api.Point) []api.Point {
	if !inLine(b, p) {
		return []api.Point{{}}
	}
	ends := []api.Point{minus(api.Point{X: b.X.Lo, Y: b.Y.Lo}, p), minus(api.Point{X: b.X.Hi, Y: b.Y.Hi}, p)}
	return slices.DeleteFunc(ends, func(d api.Point) bool { return d == api.Point{} })
}

// inLine reports whether all places of a box are in one line with a point.
func inLine(b Box, p api.Point) bool {
	oneX, oneY := b.X.Lo == b.X.Hi, b.Y.Lo == b.Y.Hi
	switch {
	case oneX && oneY:
		return true
	case oneX:
		return b.X.Lo == p.X
	case oneY:
		return b.Y.Lo == p.Y
	}
	return false
}

// passes reports whether one can choose a direction in each step, from a first one to a last one, so that no two that
// follow each other are opposite.
func passes(first api.Point, steps [][]api.Point, last api.Point) bool {
	possible := []api.Point{first}
	for _, step := range slices.Concat(steps, [][]api.Point{{last}}) {
		before := possible
		possible = slices.DeleteFunc(slices.Clone(step), func(d api.Point) bool {
			return every(before, func(other api.Point) bool { return opposite(d, other) })
		})
	}
	return len(possible) > 0
}

// opposite reports whether two directions are opposite. The direction 0, 0 is opposite to none.
func opposite(a, b api.Point) bool {
	return cross(a, b) == 0 && a.X*b.X+a.Y*b.Y < 0
}

// add counts a point with a place.
func (posts *Posts) add(place Place) {
	switch place {
	case Outer:
		posts.Outer++
	case Inner:
		posts.Inner++
	case On:
		posts.On++
	case Strip:
		posts.Strip++
	}
}
