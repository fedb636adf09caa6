package sight

import (
	"cmp"
	"slices"

	"limitrophe/api"
)

// corner is the place x by d, y by d. Its d is above 0, and no number above 1 divides all three: so the d of a place
// where two bounds meet divides their cross, and is at most 2 MaxTurn MaxTurn, which keeps all products small.
type corner struct{ x, y, d int }

// region has the corners of a convex shape, each once, and the shape lies to the left of whoever goes from each corner
// to the next one. If it is a stretch it has two corners, if it is a single place one.
type region []corner

// end is one of the two ends of fractions.
type end struct {
	of    func(list []api.Ratio) api.Ratio
	round func(r api.Ratio) int // to the next whole number that is not further in
}

// low returns the end of the least fractions. None of those that are rounded is below 0.
func low() end {
	return end{
		of:    func(list []api.Ratio) api.Ratio { return slices.MinFunc(list, compare) },
		round: func(r api.Ratio) int { return r.N / r.D },
	}
}

// high returns the end of the greatest fractions.
func high() end {
	return end{
		of:    func(list []api.Ratio) api.Ratio { return slices.MaxFunc(list, compare) },
		round: func(r api.Ratio) int { return (r.N + r.D - 1) / r.D },
	}
}

// regionOf returns the region of the land that keeps bounds.
func regionOf(bounds []Bound) region {
	r := region{{0, 0, 1}, {MaxLand, 0, 1}, {MaxLand, MaxLand, 1}, {0, MaxLand, 1}}
	cut := func(b Bound) {
		sides := map[corner]int{}
		for _, c := range r {
			sides[c] = b.beyond(c)
		}
		var kept region
		for number, c := range r {
			next := r[(number+1)%len(r)]
			if sides[c] <= 0 {
				kept = kept.with(c)
			}
			if apart(sides[c], sides[next]) {
				kept = kept.with(meet(c, next, sides[c], sides[next]))
			}
		}
		r = kept
	}
	for _, b := range bounds {
		cut(b)
	}
	return r
}

// beyond returns a number above 0 if a corner does not keep a bound, 0 if it lies on its line, and one below 0 if it
// lies on its other side. Its size is in proportion to how far away the line is, times d.
func (b Bound) beyond(c corner) int { return b.A*c.x + b.B*c.y - b.C*c.d }

// apart reports whether one number is below 0, and the other one above.
func apart(m, n int) bool { return min(m, n) < 0 && max(m, n) > 0 }

// with returns a region with one more corner, if it is not there yet: both ways along a stretch meet a line at the same
// place.
func (r region) with(c corner) region {
	if slices.ContainsFunc(r, func(other corner) bool { return other == c }) {
		return r
	}
	return append(r, c)
}

// meet returns where what goes straight from one corner to another one meets a line, on both sides of which they are.
func meet(a, b corner, sideA, sideB int) corner {
	m, n := max(sideB, -sideB), max(sideA, -sideA)
	x, y, d := m*a.x+n*b.x, m*a.y+n*b.y, m*a.d+n*b.d
	divisor := common(common(x, y), d)
	return corner{x / divisor, y / divisor, d / divisor}
}

// spots returns the corners of a region, the westernmost one first, of several such ones the southernmost one.
func (r region) spots() []Spot {
	first := slices.Index(r, slices.MinFunc(r, fromWest))
	var list []Spot
	for _, c := range slices.Concat(r[first:], r[:first]) {
		list = append(list, Spot{X: ratio(c.x, c.d), Y: ratio(c.y, c.d)})
	}
	return list
}

// fromWest orders corners from west to east, and those with the same x from south to north.
func fromWest(a, b corner) int {
	return cmp.Or(cmp.Compare(a.x*b.d, b.x*a.d), cmp.Compare(a.y*b.d, b.y*a.d))
}

// reaches returns how far the corners of a region reach in a direction.
func (r region) reaches(to api.Point) []api.Ratio {
	var list []api.Ratio
	for _, c := range r {
		list = append(list, ratio(to.X*c.x+to.Y*c.y, c.d))
	}
	return list
}

// span returns the least span of whole numbers between which all places of a region reach in a direction.
func (r region) span(to api.Point) api.Span {
	whole := func(e end) int { return e.round(e.of(r.reaches(to))) }
	return api.Span{Lo: whole(low()), Hi: whole(high())}
}

// ratio returns a fraction in lowest terms. Its d is above 0.
func ratio(n, d int) api.Ratio {
	divisor := common(n, d)
	return api.Ratio{N: n / divisor, D: d / divisor}
}

// compare orders fractions.
func compare(a, b api.Ratio) int { return cmp.Compare(a.N*b.D, b.N*a.D) }

// common returns the greatest number that divides two numbers, which are not both 0, or else 0.
func common(m, n int) int {
	for n != 0 {
		m, n = n, m%n
	}
	return max(m, -m)
}
