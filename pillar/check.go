package pillar

import "limitrophe/api"

// Check returns the error of a profile.
func Check(p Profile) api.Errno {
	if !between(len(p.At), 2, MaxPlaces) || len(p.Ground) != len(p.At) {
		return api.ErrCount
	}
	isAllowed := every(p.At, within(0, MaxAt)) && every(p.Ground, spanWithin(0, MaxHeight)) &&
		between(p.Tall, 0, MaxTall) && spanWithin(0, MaxBend)(p.Bend)
	if !isAllowed {
		return api.ErrValue
	}
	if !everyNext(p.At, isLess) {
		return api.ErrOrder
	}
	return api.OK
}

// checkPair returns the error of a profile, then that of two places.
func checkPair(p Profile, i, j int) api.Errno {
	if e := Check(p); e != api.OK {
		return e
	}
	if !p.arePlaces(i, j) {
		return api.ErrArg
	}
	return api.OK
}

// checkPillars returns the error of a profile, then that of the places at which pillars stand.
func checkPillars(p Profile, pillars []int) api.Errno {
	if e := Check(p); e != api.OK {
		return e
	}
	if !every(pillars, within(0, len(p.At)-1)) {
		return api.ErrArg
	}
	return api.OK
}

// checkStones returns the error of a roll and of finds.
func checkStones(r Roll, f Finds) api.Errno {
	stones := len(f.Numbers)
	if !between(len(r.Gaps), 1, MaxPlaces-1) || !between(stones, 1, MaxPlaces) || len(f.Gaps) != stones-1 {
		return api.ErrCount
	}
	isDistance := spanWithin(1, MaxAt)
	// A bottle can say None, which is one less than the number of the first pillar.
	isNumber := within(None, len(r.Gaps))
	if !every(r.Gaps, isDistance) || !every(f.Gaps, isDistance) || !every(f.Numbers, isNumber) {
		return api.ErrValue
	}
	return api.OK
}

// isTruth reports whether heights, one for each place, and a bend are a truth of a valid profile.
func (p Profile) isTruth(heights []int, bend int) bool {
	for place, height := range heights {
		if !between(height, p.Ground[place].Lo, p.Ground[place].Hi) {
			return false
		}
	}
	return between(bend, p.Bend.Lo, p.Bend.Hi)
}

// arePlaces reports whether two numbers are those of two places of a valid profile.
func (p Profile) arePlaces(i, j int) bool {
	isPlace := within(0, len(p.At)-1)
	return isPlace(i) && isPlace(j) && i != j
}

// isLevel reports whether a number is one that a level can be.
func isLevel(n int) bool { return between(n, 0, MaxPlaces) }

// isLess reports whether a number is less than another one.
func isLess(a, b int) bool { return a < b }

// within returns what asks whether a number is from one number to another one.
func within(least, most int) func(int) bool {
	return func(n int) bool { return between(n, least, most) }
}

// spanWithin returns what asks whether a span has numbers, all of which are from one number to another one.
func spanWithin(least, most int) func(api.Span) bool {
	return func(s api.Span) bool { return s.Lo >= least && s.Lo <= s.Hi && s.Hi <= most }
}

// every reports whether something holds for every element of a list.
func every[T any](list []T, holds func(T) bool) bool {
	for _, x := range list {
		if !holds(x) {
			return false
		}
	}
	return true
}

// everyNext reports whether something holds for every element of a list and the one behind it.
func everyNext[T any](list []T, holds func(a, b T) bool) bool {
	for i := 1; i < len(list); i++ {
		if !holds(list[i-1], list[i]) {
			return false
		}
	}
	return true
}

// between reports whether a number is from one number to another one.
func between(n, least, most int) bool { return n >= least && n <= most }
