package strip_test

import (
	"limitrophe/api"
	"limitrophe/strip"
)

// This file has what follows from the chapter's terms alone, found by looking at everything.

// turns is above 0 if c is to the left of the line from a to b.
func turns(a, b, c api.Point) int { return (b.X-a.X)*(c.Y-a.Y) - (b.Y-a.Y)*(c.X-a.X) }

// isBetween reports whether p is on what goes straight from a to b.
func isBetween(a, b, p api.Point) bool {
	return turns(a, b, p) == 0 &&
		min(a.X, b.X) <= p.X && p.X <= max(a.X, b.X) &&
		min(a.Y, b.Y) <= p.Y && p.Y <= max(a.Y, b.Y)
}

// truly returns what a point is in a truth.
func truly(isClosed bool, truth []api.Point, p api.Point) strip.Place {
	if isClosed {
		return trulyClosed(truth, p)
	}
	first, last := truth[0], truth[len(truth)-1]
	switch {
	case p.X <= first.X:
		return above(p.Y - first.Y)
	case p.X >= last.X:
		return above(p.Y - last.Y)
	}
	for i := 1; ; i++ {
		if p.X <= truth[i].X {
			return above(turns(truth[i-1], truth[i], p))
		}
	}
}

// above returns the place of a point that is so far above an open line.
func above(n int) strip.Place {
	switch {
	case n > 0:
		return strip.Inner
	case n < 0:
		return strip.Outer
	}
	return strip.On
}

// trulyClosed goes from the point to the east, a hair north of its own Y.
func trulyClosed(truth []api.Point, p api.Point) strip.Place {
	crossed := 0
	for i, a := range truth {
		b := truth[(i+1)%len(truth)]
		if isBetween(a, b, p) {
			return strip.On
		}
		if a.Y > b.Y {
			a, b = b, a
		}
		if a.Y <= p.Y && p.Y < b.Y && turns(a, b, p) > 0 {
			crossed++
		}
	}
	if crossed%2 == 1 {
		return strip.Inner
	}
	return strip.Outer
}

// halves returns all truths of a line of twice the size with whole coordinates: all of the line itself whose
// coordinates are whole or halves.
func halves(l strip.Line) [][]api.Point {
	truths := [][]api.Point{nil}
	for _, b := range l.Pillars {
		var longer [][]api.Point
		for _, truth := range truths {
			for x := 2 * b.X.Lo; x <= 2*b.X.Hi; x++ {
				for y := 2 * b.Y.Lo; y <= 2*b.Y.Hi; y++ {
					longer = append(longer, append(truth[:len(truth):len(truth)], at(x, y)))
				}
			}
		}
		truths = longer
	}
	return truths
}

// stretchesOf returns the corners of all stretches, as the chapter orders them.
func stretchesOf(l strip.Line) [][8]api.Point {
	boxes := append([]strip.Box{}, l.Pillars...)
	if l.Closed {
		boxes = append(boxes, boxes[0])
	} else {
		first, last := boxes[0].Y, boxes[len(boxes)-1].Y
		boxes = append([]strip.Box{box(-20000, -20000, first.Lo, first.Hi)}, boxes...)
		boxes = append(boxes, box(20000, 20000, last.Lo, last.Hi))
	}
	var stretches [][8]api.Point
	for i := 1; i < len(boxes); i++ {
		var s [8]api.Point
		for k, b := range boxes[i-1 : i+1] {
			s[4*k] = at(b.X.Lo, b.Y.Lo)
			s[4*k+1] = at(b.X.Hi, b.Y.Lo)
			s[4*k+2] = at(b.X.Hi, b.Y.Hi)
			s[4*k+3] = at(b.X.Lo, b.Y.Hi)
		}
		stretches = append(stretches, s)
	}
	return stretches
}

// covers reports whether a point lies in a triangle of three corners of a stretch, or between two of them.
func covers(s [8]api.Point, p api.Point) bool {
	for _, a := range s {
		for _, b := range s {
			if isBetween(a, b, p) {
				return true
			}
			for _, c := range s {
				if turns(a, b, p) > 0 && turns(b, c, p) > 0 && turns(c, a, p) > 0 {
					return true
				}
			}
		}
	}
	return false
}

// touch reports whether what goes straight from a to b meets what goes straight from c to d.
func touch(a, b, c, d api.Point) bool {
	if isBetween(a, b, c) || isBetween(a, b, d) || isBetween(c, d, a) || isBetween(c, d, b) {
		return true
	}
	return apart(turns(a, b, c), turns(a, b, d)) && apart(turns(c, d, a), turns(c, d, b))
}

// apart reports whether one number is below 0, and one above.
func apart(m, n int) bool { return m < 0 && n > 0 || m > 0 && n < 0 }

// crosses reports whether a road meets a stretch in some truth: it begins in it, or meets the way between two corners.
func crosses(s [8]api.Point, a, b api.Point) bool {
	if covers(s, a) {
		return true
	}
	for _, c := range s {
		for _, d := range s {
			if touch(a, b, c, d) {
				return true
			}
		}
	}
	return false
}

// isParting reports whether a line parts a point from a stretch.
func isParting(s [8]api.Point, p api.Point, line strip.Parting) bool {
	for _, c := range s {
		if turns(line.From, line.To, c) < 0 {
			return false
		}
	}
	return turns(line.From, line.To, p) < 0
}

// isMean reports whether a point is the mean of the corners of a stretch.
func isMean(s [8]api.Point, weights [8]int, p api.Point) bool {
	x, y, all := 0, 0, 0
	for i, c := range s {
		x += weights[i] * c.X
		y += weights[i] * c.Y
		all += weights[i]
	}
	return all > 0 && x == all*p.X && y == all*p.Y
}

// lawful returns a point's place.
func lawful(l strip.Line, truths [][]api.Point, p api.Point) strip.Place {
	met := [4]bool{}
	for _, truth := range truths {
		met[truly(l.Closed, truth, at(2*p.X, 2*p.Y))] = true
	}
	for _, s := range stretchesOf(l) {
		met[strip.On] = met[strip.On] || covers(s, p)
	}
	switch met {
	case [4]bool{strip.Outer: true}:
		return strip.Outer
	case [4]bool{strip.Inner: true}:
		return strip.Inner
	case [4]bool{strip.On: true}:
		return strip.On
	}
	return strip.Strip
}
