package sight_test

import (
	"math/big"
	"slices"

	"limitrophe/api"
	"limitrophe/sight"
)

// This file has what follows from the chapter's terms alone, found by looking at everything.

// crossed is the cross of two directions.
func crossed(a, b api.Point) int { return a.X*b.Y - a.Y*b.X }

// holdsAt reports whether a sight holds for places of both its pillars.
func holdsAt(s sight.Sight, from, to api.Point) bool {
	way := at(to.X-from.X, to.Y-from.Y)
	return crossed(s.Right, way) >= 0 && crossed(way, s.Left) >= 0
}

// offOf returns the sights that do not hold.
func offOf(n sight.Net) []int {
	var l []int
	for number, s := range n.Sights {
		if !holdsAt(s, n.Pillars[s.From], n.Pillars[s.To]) {
			l = append(l, number)
		}
	}
	return l
}

// boundsOf returns the bounds of a pillar, as the chapter writes them.
func boundsOf(n sight.Net, pillar int) []sight.Bound {
	var l []sight.Bound
	for _, s := range n.Sights {
		right, right2, left, left2 := s.Right.X, s.Right.Y, s.Left.X, s.Left.Y
		switch pillar {
		case s.To:
			p, q := n.Pillars[s.From].X, n.Pillars[s.From].Y
			l = append(l, b(right2, -right, right2*p-right*q), b(-left2, left, left*q-left2*p))
		case s.From:
			p, q := n.Pillars[s.To].X, n.Pillars[s.To].Y
			l = append(l, b(-right2, right, right*q-right2*p), b(left2, -left, left2*p-left*q))
		}
	}
	return append(l, ofLand()...)
}

// lowest returns a fraction in lowest terms.
func lowest(n, d int) api.Ratio {
	q := big.NewRat(int64(n), int64(d))
	return r(int(q.Num().Int64()), int(q.Denom().Int64()))
}

// cornersOf returns all places where two bounds that are not parallel meet, and that keep all bounds: the corners, in
// no order.
func cornersOf(bounds []sight.Bound) []sight.Spot {
	var l []sight.Spot
	for i, f := range bounds {
		for _, g := range bounds[i+1:] {
			d := f.A*g.B - g.A*f.B
			if d == 0 {
				continue
			}
			x, y := f.C*g.B-g.C*f.B, f.A*g.C-g.A*f.C
			if d < 0 {
				x, y, d = -x, -y, -d
			}
			isBroken := func(h sight.Bound) bool { return h.A*x+h.B*y > h.C*d }
			if slices.ContainsFunc(bounds, isBroken) {
				continue
			}
			if corner := (sight.Spot{X: lowest(x, d), Y: lowest(y, d)}); !slices.Contains(l, corner) {
				l = append(l, corner)
			}
		}
	}
	return l
}

// exact returns a fraction as a number.
func exact(r api.Ratio) *big.Rat { return big.NewRat(int64(r.N), int64(r.D)) }

// less returns a number less another one.
func less(m, n *big.Rat) *big.Rat { return new(big.Rat).Sub(m, n) }

// turns is above 0 if c is to the left of whoever goes from a to b.
func turns(a, b, c sight.Spot) int {
	x, y := less(exact(b.X), exact(a.X)), less(exact(b.Y), exact(a.Y))
	x2, y2 := less(exact(c.X), exact(a.X)), less(exact(c.Y), exact(a.Y))
	return new(big.Rat).Mul(x, y2).Cmp(new(big.Rat).Mul(y, x2))
}

// isRound reports whether all corners are to the left of whoever goes from each to the next one.
func isRound(corners []sight.Spot) bool {
	for i, a := range corners {
		next := (i + 1) % len(corners)
		for k, c := range corners {
			if len(corners) > 2 && k != i && k != next && turns(a, corners[next], c) <= 0 {
				return false
			}
		}
	}
	return true
}

// isFirst reports whether a corner has the least X, and of several such ones the least Y.
func isFirst(corner sight.Spot, corners []sight.Spot) bool {
	for _, c := range corners {
		byX := exact(c.X).Cmp(exact(corner.X))
		if byX < 0 || byX == 0 && exact(c.Y).Cmp(exact(corner.Y)) < 0 {
			return false
		}
	}
	return true
}

// reachOf returns how far corners reach in a direction at most.
func reachOf(corners []sight.Spot, to api.Point) *big.Rat {
	var most *big.Rat
	for _, c := range corners {
		x := new(big.Rat).Mul(exact(c.X), big.NewRat(int64(to.X), 1))
		y := new(big.Rat).Mul(exact(c.Y), big.NewRat(int64(to.Y), 1))
		if x.Add(x, y); most == nil || x.Cmp(most) > 0 {
			most = x
		}
	}
	return most
}

// spanOf returns the least span of whole numbers between which corners lie, along one axis.
func spanOf(corners []sight.Spot, axis func(sight.Spot) api.Ratio) api.Span {
	s := span(1000, 0)
	for _, c := range corners {
		for s.Lo*axis(c).D > axis(c).N {
			s.Lo--
		}
		for s.Hi*axis(c).D < axis(c).N {
			s.Hi++
		}
	}
	return s
}

// sumOf returns the sum of a proof. It fails for one that is none at all.
func sumOf(bounds []sight.Bound, p sight.Proof) (s sight.Bound, ok bool) {
	if len(p.Bounds) < 1 || len(p.Bounds) > 3 || len(p.Weights) != len(p.Bounds) || p.Times < 0 || p.Times > 1000000 {
		return s, false
	}
	for i, number := range p.Bounds {
		weight := p.Weights[i]
		if number < 0 || number >= len(bounds) || weight < 0 || weight > 1000000 || i > 0 && p.Bounds[i-1] >= number {
			return s, false
		}
		s.A, s.B, s.C = s.A+weight*bounds[number].A, s.B+weight*bounds[number].B, s.C+weight*bounds[number].C
	}
	return s, true
}

// provesThat reports whether a proof proves, for a direction, that nothing reaches farther than a fraction.
func provesThat(bounds []sight.Bound, p sight.Proof, to api.Point, farthest api.Ratio) bool {
	s, ok := sumOf(bounds, p)
	return ok && p.Times >= 1 && s.A == p.Times*to.X && s.B == p.Times*to.Y && lowest(s.C, p.Times) == farthest
}

// isRefuted reports whether a proof refutes all places.
func isRefuted(bounds []sight.Bound, p sight.Proof) bool {
	s, ok := sumOf(bounds, p)
	return ok && p.Times == 0 && s.A == 0 && s.B == 0 && s.C < 0
}

// hasRoom reports whether the region of a pillar has a place.
func hasRoom(n sight.Net, pillar int) bool { return len(cornersOf(boundsOf(n, pillar))) > 0 }

// isOf reports whether a sight is of a pillar.
func isOf(s sight.Sight, pillar int) bool { return s.From == pillar || s.To == pillar }

// looseOf returns the sights of a pillar without any of which alone its region has a place.
func looseOf(n sight.Net, pillar int) []int {
	var l []int
	for number, s := range n.Sights {
		if isOf(s, pillar) && hasRoom(without(n, number), pillar) {
			l = append(l, number)
		}
	}
	return l
}

// moversOf returns the pillars that alone can have moved.
func moversOf(n sight.Net) []int {
	var l []int
	for pillar := range n.Pillars {
		others := func(number int) bool { return !isOf(n.Sights[number], pillar) }
		if !slices.ContainsFunc(offOf(n), others) && hasRoom(n, pillar) {
			l = append(l, pillar)
		}
	}
	return l
}
