package sight

import (
	"slices"

	"limitrophe/api"
)

// work is a valid net at work for one of its pillars.
type work struct {
	Net
	pillar int
	bounds []Bound // of the pillar
}

// look puts a valid net to work for a pillar.
func look(n Net, pillar int) *work {
	w := &work{Net: n, pillar: pillar}
	isOf := w.isOf
	for number, s := range w.Sights {
		if isOf(number) {
			right, left := w.boundsOf(s)
			w.bounds = append(w.bounds, right, left)
		}
	}
	w.bounds = append(w.bounds, Bound{1, 0, MaxLand}, Bound{-1, 0, 0}, Bound{0, 1, MaxLand}, Bound{0, -1, 0})
	return w
}

// isOf reports whether a sight is of the pillar.
func (w *work) isOf(number int) bool {
	s := w.Sights[number]
	return s.From == w.pillar || s.To == w.pillar
}

// boundsOf returns the bounds that a sight of the pillar gives it. Whoever looks from it sees the other pillar on one
// side of a direction if it lies itself, seen from there, on the same side of the opposite direction.
func (w *work) boundsOf(s Sight) (right, left Bound) {
	if s.To == w.pillar {
		at := w.Pillars[s.From]
		return notRight(at, s.Right), notRight(at, opposite(s.Left))
	}
	at := w.Pillars[s.To]
	return notRight(at, opposite(s.Right)), notRight(at, s.Left)
}

// notRight returns the bound of all places that do not lie to the right of whoever goes from a point in a direction.
func notRight(from, way api.Point) Bound {
	return Bound{A: way.Y, B: -way.X, C: way.Y*from.X - way.X*from.Y}
}

// hasPlace reports whether the region of the pillar has a place.
func (w *work) hasPlace() bool { return len(regionOf(w.bounds)) > 0 }

// without returns a net without one of its sights.
func (n Net) without(number int) Net {
	sights := slices.Clone(n.Sights)
	return Net{Pillars: n.Pillars, Sights: slices.Delete(sights, number, number+1)}
}

// loose returns the sights of the pillar without any of which alone its region has a place.
func (w *work) loose() []int {
	isOf := w.isOf
	var list []int
	for number := range w.Sights {
		if isOf(number) && look(w.without(number), w.pillar).hasPlace() {
			list = append(list, number)
		}
	}
	return list
}

// off returns the sights of a valid net that do not hold.
func (n Net) off() []int {
	var list []int
	for number, s := range n.Sights {
		from, to := n.Pillars[s.From], n.Pillars[s.To]
		seen := api.Point{X: to.X - from.X, Y: to.Y - from.Y}
		if cross(s.Right, seen) < 0 || cross(seen, s.Left) < 0 {
			list = append(list, number)
		}
	}
	return list
}

// movers returns the pillars of a valid net that alone can have moved, if some sights are off.
func (n Net) movers(off []int) []int {
	var list []int
	for pillar := range n.Pillars {
		w := look(n, pillar)
		if every(off, w.isOf) && w.hasPlace() {
			list = append(list, pillar)
		}
	}
	return list
}

// cross is above 0 if the second direction lies less than half a turn to the left of the first one.
func cross(a, b api.Point) int { return a.X*b.Y - a.Y*b.X }

// opposite returns the direction that is opposite to another one.
func opposite(way api.Point) api.Point { return api.Point{X: -way.X, Y: -way.Y} }
