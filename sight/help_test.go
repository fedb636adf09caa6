package sight_test

import (
	"math/rand"
	"slices"
	"testing"

	"limitrophe/api"
	"limitrophe/sight"
)

// at makes a point.
func at(x, y int) api.Point { return api.Point{X: x, Y: y} }

// list makes a list.
func list(n ...int) []int { return n }

// r makes a fraction, and span a span.
func r(n, d int) api.Ratio      { return api.Ratio{N: n, D: d} }
func span(lo, hi int) api.Span  { return api.Span{Lo: lo, Hi: hi} }
func b(x, y, c int) sight.Bound { return sight.Bound{A: x, B: y, C: c} }

// spot makes a place of two whole numbers, broken one of two fractions.
func spot(x, y int) sight.Spot              { return broken(x, 1, y, 1) }
func broken(x, x2, y, y2 int) sight.Spot    { return sight.Spot{X: r(x, x2), Y: r(y, y2)} }
func spots(list ...sight.Spot) []sight.Spot { return list }

// seen makes a sight between the directions right, right2 and left, left2.
func seen(from, to, right, right2, left, left2 int) sight.Sight {
	return sight.Sight{From: from, To: to, Right: at(right, right2), Left: at(left, left2)}
}

// net makes a net of the pillars of example 5, of which the first three are those of example 1.
func net(sights ...sight.Sight) sight.Net {
	return sight.Net{Pillars: []api.Point{at(0, 0), at(100, 0), at(60, 60), at(60, 0)}, Sights: sights}
}

// three is the net of example 1, off that of example 4, and four that of example 5.
func three() sight.Net {
	n := net(seen(0, 2, 2, 1, 1, 2), seen(1, 2, -1, 2, -2, 1))
	n.Pillars = n.Pillars[:3]
	return n
}

func off() sight.Net {
	n := three()
	n.Sights[1] = seen(1, 2, 1, 0, 1, 1)
	return n
}

func four() sight.Net {
	return net(seen(0, 2, 2, 1, 1, 2), seen(1, 2, 1, 0, 1, 1), seen(3, 2, 1, 10, -1, 10))
}

// ofLand returns the bounds of the land.
func ofLand() []sight.Bound {
	return []sight.Bound{b(1, 0, 1000), b(-1, 0, 0), b(0, 1, 1000), b(0, -1, 0)}
}

// allLand returns the corners of the land.
func allLand() []sight.Spot {
	return spots(spot(0, 0), spot(1000, 0), spot(1000, 1000), spot(0, 1000))
}

// proof makes a proof.
func proof(times int, bounds, weights []int) sight.Proof {
	return sight.Proof{Bounds: bounds, Weights: weights, Times: times}
}

// copyOf returns a net that shares no memory with another one.
func copyOf(n sight.Net) sight.Net {
	return sight.Net{Pillars: slices.Clone(n.Pillars), Sights: slices.Clone(n.Sights)}
}

// with returns a net with more sights.
func with(n sight.Net, sights ...sight.Sight) sight.Net {
	return sight.Net{Pillars: n.Pillars, Sights: slices.Concat(n.Sights, sights)}
}

// without returns a net without one of its sights.
func without(n sight.Net, number int) sight.Net {
	return sight.Net{Pillars: n.Pillars, Sights: slices.Concat(n.Sights[:number], n.Sights[number+1:])}
}

// moved returns a net with one pillar elsewhere.
func moved(n sight.Net, pillar int, to api.Point) sight.Net {
	n = copyOf(n)
	n.Pillars[pillar] = to
	return n
}

// expect reports an error that is not the one wanted.
func expect(t *testing.T, what string, got, want api.Errno) {
	t.Helper()
	if got != want {
		t.Errorf("%s: error %d, not %d", what, got, want)
	}
}

// anyWay returns a direction.
func anyWay(r *rand.Rand, most int) api.Point {
	for {
		way := at(r.Intn(2*most+1)-most, r.Intn(2*most+1)-most)
		if way != at(0, 0) {
			return way
		}
	}
}

// anySight returns a sight of two of so many pillars.
func anySight(r *rand.Rand, pillars, most int) sight.Sight {
	for {
		s := sight.Sight{From: r.Intn(pillars), To: r.Intn(pillars), Right: anyWay(r, most), Left: anyWay(r, most)}
		if s.From != s.To && crossed(s.Right, s.Left) > 0 {
			return s
		}
	}
}

// trueSight returns a sight that holds.
func trueSight(r *rand.Rand, pillars []api.Point, most int) sight.Sight {
	for {
		s := anySight(r, len(pillars), most)
		if holdsAt(s, pillars[s.From], pillars[s.To]) {
			return s
		}
	}
}

// anyPillars returns pillars, of which some are at the same place.
func anyPillars(r *rand.Rand, pillars, far int) []api.Point {
	var l []api.Point
	for range pillars {
		l = append(l, at(r.Intn(far+1), r.Intn(far+1)))
		if r.Intn(10) == 0 {
			l[len(l)-1] = l[r.Intn(len(l))]
		}
	}
	return l
}

// trueNet returns a net whose sights all hold. Many of them are of the same pillar.
func trueNet(r *rand.Rand) sight.Net {
	far, most := 6, 3
	if r.Intn(2) == 0 {
		far, most = 1000, 50
	}
	n := sight.Net{Pillars: anyPillars(r, 2+r.Intn(4), far)}
	for range r.Intn(8) {
		n.Sights = append(n.Sights, trueSight(r, n.Pillars, most))
	}
	return n
}

// anyNet returns a net some of whose sights can be off. Sights that hold lie close to those that do not.
func anyNet(r *rand.Rand) sight.Net {
	n := trueNet(r)
	for range r.Intn(3) {
		n.Sights = append(n.Sights, anySight(r, len(n.Pillars), 4))
	}
	if r.Intn(2) == 0 {
		n.Pillars[r.Intn(len(n.Pillars))] = at(r.Intn(12), r.Intn(12))
	}
	return n
}

// greatNet returns a net with as many pillars and sights as there may be, half of them of the pillar 0.
func greatNet(r *rand.Rand) sight.Net {
	n := sight.Net{Pillars: anyPillars(r, 10, 1000)}
	for len(n.Sights) < 20 {
		s := trueSight(r, n.Pillars, 50)
		if s.From == 0 || s.To == 0 || r.Intn(3) == 0 {
			n.Sights = append(n.Sights, s)
		}
	}
	return n
}
