package sight

import "limitrophe/api"

// Check reports whether a net is valid.
func Check(n Net) api.Errno {
	if !between(len(n.Pillars), 1, MaxPillars) || len(n.Sights) > MaxSights {
		return api.ErrCount
	}
	if !every(n.Pillars, isOfLand) {
		return api.ErrValue
	}
	for _, s := range n.Sights {
		if e := checkSight(s, len(n.Pillars)); e != api.OK {
			return e
		}
	}
	return api.OK
}

// checkSight returns the error of a sight in a net with so many pillars.
func checkSight(s Sight, pillars int) api.Errno {
	isPillar := under(pillars)
	if !isPillar(s.From) || !isPillar(s.To) || s.From == s.To {
		return api.ErrArg
	}
	if !isDirection(s.Right) || !isDirection(s.Left) || cross(s.Right, s.Left) <= 0 {
		return api.ErrValue
	}
	return api.OK
}

// checkPillar returns the error of a net, then that of the number of a pillar.
func checkPillar(n Net, pillar int) api.Errno {
	if e := Check(n); e != api.OK {
		return e
	}
	if !between(pillar, 0, len(n.Pillars)-1) {
		return api.ErrArg
	}
	return api.OK
}

// checkTo returns the error of a net, then that of the number of a pillar, then that of a direction.
func checkTo(n Net, pillar int, to api.Point) api.Errno {
	if e := checkPillar(n, pillar); e != api.OK {
		return e
	}
	if !isDirection(to) {
		return api.ErrValue
	}
	return api.OK
}

// checkProof returns the error of a proof for a pillar that has so many bounds.
func checkProof(p Proof, bounds int) api.Errno {
	switch {
	case !between(len(p.Bounds), 1, 3) || len(p.Weights) != len(p.Bounds):
		return api.ErrCount
	case !every(p.Bounds, under(bounds)):
		return api.ErrArg
	case !increasing(p.Bounds):
		return api.ErrOrder
	case !every(p.Weights, isWeight) || !isWeight(p.Times):
		return api.ErrValue
	}
	return api.OK
}

// isOfLand reports whether a point is of the land.
func isOfLand(p api.Point) bool { return between(p.X, 0, MaxLand) && between(p.Y, 0, MaxLand) }

// isDirection reports whether a point is a direction.
func isDirection(p api.Point) bool {
	return p != api.Point{} && between(p.X, -MaxTurn, MaxTurn) && between(p.Y, -MaxTurn, MaxTurn)
}

// isWeight reports whether a number can be a weight.
func isWeight(n int) bool { return between(n, 0, MaxWeight) }

// every reports whether something holds for every element of a list.
func every[T any](list []T, holds func(T) bool) bool {
	for _, x := range list {
		if !holds(x) {
			return false
		}
	}
	return true
}

// between reports whether a number is from one number to another one.
func between(n, least, most int) bool { return n >= least && n <= most }

// under returns what reports whether a number is from 0 on, and less than an end.
func under(end int) func(int) bool {
	return func(n int) bool { return between(n, 0, end-1) }
}

// increasing reports whether a list is strictly increasing.
func increasing(list []int) bool {
	for i := 1; i < len(list); i++ {
		if list[i-1] >= list[i] {
			return false
		}
	}
	return true
}
