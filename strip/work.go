package strip

import (
	"iter"
	"slices"

	"limitrophe/api"
)

// stretch has the corners of a stretch.
type stretch [8]api.Point

// corner is one of the corners of any box: it takes an end of each span.
type corner struct{ x, y func(api.Span) int }

// work is a valid line at work.
type work struct {
	Line
	hulls []hull // of the stretches
}

// survey puts a valid line to work.
func survey(l Line) *work {
	w := &work{Line: l, hulls: make([]hull, l.count())}
	for number, s := range l.stretches() {
		w.hulls[number] = hullOf(s[:])
	}
	return w
}

// corners returns the corners of any box, from the south-west one on, counterclockwise.
func corners() [4]corner {
	low := func(s api.Span) int { return s.Lo }
	high := func(s api.Span) int { return s.Hi }
	return [4]corner{{low, low}, {high, low}, {high, high}, {low, high}}
}

// of returns where a box has a corner.
func (c corner) of(b Box) api.Point { return api.Point{X: c.x(b.X), Y: c.y(b.Y)} }

// exactly returns the box that has one place.
func exactly(p api.Point) Box {
	return Box{X: api.Span{Lo: p.X, Hi: p.X}, Y: api.Span{Lo: p.Y, Hi: p.Y}}
}

// narrowed returns the line of one truth.
func (l Line) narrowed(truth []api.Point) Line {
	narrow := Line{Closed: l.Closed}
	for _, p := range truth {
		narrow.Pillars = append(narrow.Pillars, exactly(p))
	}
	return narrow
}

// count returns how many stretches a valid line has.
func (l Line) count() int {
	if l.Closed {
		return len(l.Pillars)
	}
	return len(l.Pillars) + 1
}

// stops returns the boxes through which a valid line goes, one more than there are stretches. An open line comes from
// far away in the west, and goes far away to the east.
func (l Line) stops() []Box {
	first, last := l.Pillars[0], l.Pillars[len(l.Pillars)-1]
	if l.Closed {
		return slices.Concat(l.Pillars, []Box{first})
	}
	first.X = api.Span{Lo: -2 * Max, Hi: -2 * Max}
	last.X = api.Span{Lo: 2 * Max, Hi: 2 * Max}
	return slices.Concat([]Box{first}, l.Pillars, []Box{last})
}

// stretches yields the stretches of a valid line with their numbers.
func (l Line) stretches() iter.Seq2[int, stretch] {
	return func(yield func(int, stretch) bool) {
		stops := l.stops()
		for number := range l.count() {
			var s stretch
			for i, c := range corners() {
				s[i], s[i+4] = c.of(stops[number]), c.of(stops[number+1])
			}
			if !yield(number, s) {
				return
			}
		}
	}
}

// weights returns weights of the corners of a stretch: their mean is a point that its hull holds. Of several corners at
// one place the first one has the weight.
func (s stretch) weights(h hull, p api.Point) [8]int {
	numbers := map[api.Point]int{}
	for number, place := range slices.Backward(s[:]) {
		numbers[place] = number
	}
	var weights [8]int
	for i, weight := range h.weights(p) {
		weights[numbers[h[i]]] = weight
	}
	return weights
}

// balances reports whether a point is the mean of the corners of a stretch, each with its weight.
func (s stretch) balances(weights [8]int, p api.Point) bool {
	var sum api.Point
	for i, weight := range weights {
		way := minus(s[i], p)
		sum.X += weight * way.X
		sum.Y += weight * way.Y
	}
	return sum == api.Point{} && weights != [8]int{}
}

// canMeet reports whether a stretch can meet a road from a to b. It can if a place of its hull less a place of the road
// can be nothing, and these differences have a hull, too: that of the differences of their corners.
func (s stretch) canMeet(a, b api.Point) bool {
	var differences []api.Point
	for _, place := range s {
		differences = append(differences, minus(place, a), minus(place, b))
	}
	return hullOf(differences).holds(api.Point{})
}
