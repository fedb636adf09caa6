package strip

import (
	"cmp"
	"slices"

	"limitrophe/api"
)

// hull has the corners of the least convex shape around points, each once, and the shape lies to the left of whoever
// goes from each corner to the next one. Around points in one line it has two corners, around a single place one.
type hull []api.Point

// hullOf returns the hull of some points.
func hullOf(points []api.Point) hull {
	sorted := slices.Clone(points)
	slices.SortFunc(sorted, fromWest)
	sorted = slices.Compact(sorted)
	if len(sorted) == 1 {
		return sorted
	}
	south := bend(sorted)
	slices.Reverse(sorted)
	north := bend(sorted)
	return slices.Concat(south[:len(south)-1], north[:len(north)-1])
}

// fromWest orders points from west to east, and those with the same X from south to north.
func fromWest(a, b api.Point) int {
	return cmp.Or(cmp.Compare(a.X, b.X), cmp.Compare(a.Y, b.Y))
}

// bend returns those of sorted points that are left if one goes from the first to the last, and may only turn left.
func bend(points []api.Point) hull {
	var kept hull
	for _, p := range points {
		for len(kept) >= 2 && turn(kept[len(kept)-2], kept[len(kept)-1], p) <= 0 {
			kept = kept[:len(kept)-1]
		}
		kept = append(kept, p)
	}
	return kept
}

// turn returns a number above 0 if c lies to the left of the line from a to b, one below 0 if to the right, and 0 if c
// lies on it. Its size is twice that of the triangle.
func turn(a, b, c api.Point) int {
	return cross(minus(b, a), minus(c, a))
}

// cross returns the cross product of two directions: above 0 if b is to the left of a.
func cross(a, b api.Point) int { return a.X*b.Y - a.Y*b.X }

// minus returns the direction from b to a.
func minus(a, b api.Point) api.Point { return api.Point{X: a.X - b.X, Y: a.Y - b.Y} }

// rightOf returns what tells whether a point lies to the right of a line.
func rightOf(line Parting) func(api.Point) bool {
	return func(p api.Point) bool { return turn(line.From, line.To, p) < 0 }
}

// parts reports whether a line parts a point from corners.
func (line Parting) parts(p api.Point, corners []api.Point) bool {
	right := rightOf(line)
	return right(p) && !slices.ContainsFunc(corners, right)
}

// part returns a line that parts a point from a hull, if there is one. Some line along an edge does, if the hull is not
// flat or the point is not in line with it; otherwise one through the nearest corner, square to the way to the point.
func (h hull) part(p api.Point) (Parting, bool) {
	var line Parting
	found := false
search:
	for number, corner := range h {
		next := h[(number+1)%len(h)]
		for _, line = range [2]Parting{{From: corner, To: next}, square(corner, p)} {
			if line.parts(p, h) {
				found = true
				break search
			}
		}
	}
	if !found {
		return Parting{}, false
	}
	return line, true
}

// square returns the line through a corner that is square to the way from there to a point, which lies to its right.
func square(corner, p api.Point) Parting {
	way := minus(p, corner)
	return Parting{From: corner, To: api.Point{X: corner.X - way.Y, Y: corner.Y + way.X}}
}

// holds reports whether a point lies in a hull.
func (h hull) holds(p api.Point) bool {
	_, parted := h.part(p)
	return !parted
}

// weights returns a weight for each corner of a hull: their mean is a point that the hull holds.
func (h hull) weights(p api.Point) []int {
	weights := make([]int, len(h))
	switch len(h) {
	case 1:
		weights[0] = 1
	case 2:
		weights[0], weights[1] = apart(p, h[1]), apart(p, h[0])
	}
	for b := 1; b+1 < len(h); b++ {
		c := b + 1
		across, before, behind := turn(h[b], h[c], p), turn(h[c], h[0], p), turn(h[0], h[b], p)
		if min(across, before, behind) >= 0 {
			weights[0], weights[b], weights[c] = across, before, behind
			break
		}
	}
	return weights
}

// apart returns how far one goes from a to b if one goes along the axes. Of points in one line this is in proportion
// to how far they are apart.
func apart(a, b api.Point) int {
	way := minus(a, b)
	return max(way.X, -way.X) + max(way.Y, -way.Y)
}

// heights returns the Ys of corners of a hull at an X, and of what goes straight from corner to corner.
func (h hull) heights(x int) []api.Ratio {
	var list []api.Ratio
	for _, a := range h {
		if a.X == x {
			list = append(list, ratio(a.Y, 1))
		}
		for _, b := range h {
			if a.X < x && x < b.X {
				list = append(list, ratio(a.Y*(b.X-x)+b.Y*(x-a.X), b.X-a.X))
			}
		}
	}
	return list
}

// ratio returns a fraction in lowest terms. Its d is above 0.
func ratio(n, d int) api.Ratio {
	a, b := max(n, -n), d
	for b != 0 {
		a, b = b, a%b
	}
	return api.Ratio{N: n / a, D: d / a}
}

// least returns the least one of several fractions.
func least(list ...api.Ratio) api.Ratio { return slices.MinFunc(list, compare) }

// greatest returns the greatest one of several fractions.
func greatest(list ...api.Ratio) api.Ratio { return slices.MaxFunc(list, compare) }

// compare orders fractions.
func compare(a, b api.Ratio) int { return cmp.Compare(a.N*b.D, b.N*a.D) }
