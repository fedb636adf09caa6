package strip_test

import (
	"math/rand"
	"slices"
	"testing"

	"limitrophe/api"
	"limitrophe/strip"
)

// box makes a box.
func box(x, x2, y, y2 int) strip.Box {
	return strip.Box{X: api.Span{Lo: x, Hi: x2}, Y: api.Span{Lo: y, Hi: y2}}
}

// stone makes a box of one place.
func stone(x, y int) strip.Box { return box(x, x, y, y) }

// at makes a point.
func at(x, y int) api.Point { return api.Point{X: x, Y: y} }

// points makes a list of points.
func points(p ...api.Point) []api.Point { return p }

// list makes a list.
func list(n ...int) []int { return n }

// open makes an open line.
func open(boxes ...strip.Box) strip.Line { return strip.Line{Pillars: boxes} }

// closed makes a closed line.
func closed(boxes ...strip.Box) strip.Line { return strip.Line{Pillars: boxes, Closed: true} }

// slope, square and flat are the lines of the examples 1, 4 and 5.
func slope() strip.Line { return open(box(0, 2, 0, 1), stone(10, 4)) }
func square() strip.Line {
	return closed(box(-1, 1, -1, 1), stone(20, 0), stone(20, 20), stone(0, 20))
}
func flat() strip.Line { return closed(box(0, 2, 0, 0), box(5, 7, 0, 0), stone(3, 9)) }

// row makes an open line with so many pillars.
func row(pillars int) strip.Line {
	var l strip.Line
	for number := range pillars {
		l.Pillars = append(l.Pillars, box(10*number, 10*number+5, -number, number))
	}
	return l
}

// ring makes a closed line with so many pillars.
func ring(pillars int) strip.Line {
	l := row(pillars)
	l.Closed = true
	return l
}

// copyOf returns a line that shares no memory with another one.
func copyOf(l strip.Line) strip.Line {
	return strip.Line{Pillars: slices.Clone(l.Pillars), Closed: l.Closed}
}

// expect reports an error that is not the one wanted.
func expect(t *testing.T, what string, got, want api.Errno) {
	t.Helper()
	if got != want {
		t.Errorf("%s: error %d, not %d", what, got, want)
	}
}

// expectPlace reports a place that is not the one wanted.
func expectPlace(t *testing.T, l strip.Line, p api.Point, want strip.Place) {
	t.Helper()
	if place, e := strip.Where(l, p); place != want || e != api.OK {
		t.Errorf("%v of %v: place %d, error %d, not place %d", p, l, place, e, want)
	}
}

// anySpan returns a span within bounds, at most so long.
func anySpan(r *rand.Rand, least, most, long int) api.Span {
	lo := least + r.Intn(most-least+1)
	return api.Span{Lo: lo, Hi: min(most, lo+r.Intn(long+1))}
}

// anyClosed returns a small closed line, with coordinates from 0 to 4. Half of all spans have one number, so that much
// of it is flat.
func anyClosed(r *rand.Rand, pillars int) strip.Line {
	l := strip.Line{Closed: true}
	for range pillars {
		l.Pillars = append(l.Pillars, strip.Box{X: anySpan(r, 0, 4, r.Intn(2)*2), Y: anySpan(r, 0, 4, r.Intn(2)*2)})
	}
	return l
}

// anyOpen returns a small open line. Half of all spans have one number.
func anyOpen(r *rand.Rand, pillars int) strip.Line {
	var l strip.Line
	x := 0
	for range pillars {
		long := r.Intn(2) * r.Intn(3)
		l.Pillars = append(l.Pillars, strip.Box{X: api.Span{Lo: x, Hi: x + long}, Y: anySpan(r, 0, 3, r.Intn(2)*2)})
		x += long + 1 + r.Intn(2)
	}
	return l
}

// anyLine returns a small line, open or closed.
func anyLine(r *rand.Rand) strip.Line {
	if r.Intn(2) == 0 {
		return anyOpen(r, 2+r.Intn(2))
	}
	return anyClosed(r, 3)
}

// greatLine returns a line with many pillars, anywhere.
func greatLine(r *rand.Rand) strip.Line {
	l := strip.Line{Closed: r.Intn(2) == 0}
	pillars := 3 + r.Intn(18)
	wide := 2 * strip.Max / pillars
	for number := range pillars {
		west, east := -strip.Max, strip.Max
		if !l.Closed {
			west += number * wide
			east = west + wide - 1
		}
		l.Pillars = append(l.Pillars, strip.Box{X: anySpan(r, west, east, 2*strip.Max), Y: anySpan(r, -strip.Max, strip.Max, 2*strip.Max)})
	}
	return l
}

// anyPoint returns a point with coordinates within bounds.
func anyPoint(r *rand.Rand, least, most int) api.Point {
	s := anySpan(r, least, most, 0)
	return at(s.Lo, anySpan(r, least, most, 0).Lo)
}

// scaled returns a line that is so many times as large.
func scaled(l strip.Line, times int) strip.Line {
	great := strip.Line{Closed: l.Closed}
	for _, b := range l.Pillars {
		great.Pillars = append(great.Pillars, box(times*b.X.Lo, times*b.X.Hi, times*b.Y.Lo, times*b.Y.Hi))
	}
	return great
}
