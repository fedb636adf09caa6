package ridge

import "limitrophe/api"

// Check returns the error of a ground.
func Check(g Ground) api.Errno {
	cells := len(g.Heights)
	if !between(cells, 1, MaxCells) || g.Wide < 1 || cells%g.Wide != 0 || len(g.Seas) != cells {
		return api.ErrCount
	}
	if !every(g.Seas, isOfSeas) || !every(g.Heights, isSpan) {
		return api.ErrValue
	}
	seas := [secondSea + 1]int{}
	for _, sea := range g.Seas {
		seas[sea]++
	}
	if seas[firstSea] == 0 || seas[secondSea] == 0 {
		return api.ErrNone
	}
	for cell, sea := range g.Seas {
		if sea == firstSea && g.touches(cell, secondSea) {
			return api.ErrClash
		}
	}
	return api.OK
}

// checkTruth returns the error of a ground, then that of a truth.
func checkTruth(g Ground, truth []int) api.Errno {
	if e := Check(g); e != api.OK {
		return e
	}
	if len(truth) != len(g.Heights) {
		return api.ErrArg
	}
	for cell, span := range g.Heights {
		if !between(truth[cell], span.Lo, span.Hi) {
			return api.ErrFalse
		}
	}
	return api.OK
}

// isOfSeas reports whether a number is allowed in Seas.
func isOfSeas(n int) bool { return between(n, land, secondSea) }

// isSpan reports whether a span is one of heights.
func isSpan(s api.Span) bool { return isHeight(s.Lo) && isHeight(s.Hi) && s.Lo <= s.Hi }

// isHeight reports whether a number is a height.
func isHeight(n int) bool { return between(n, 0, MaxHeight) }

// isLand reports whether a number is that of a land cell of a valid ground.
func (g Ground) isLand(n int) bool { return between(n, 0, len(g.Seas)-1) && g.Seas[n] == land }

// every reports whether something holds for every element of a list.
func every[T any](list []T, holds func(T) bool) bool {
	for _, x := range list {
		if !holds(x) {
			return false
		}
	}
	return true
}

// between reports whether a number is from one number to another one.
func between(n, least, most int) bool { return n >= least && n <= most }

// increasing reports whether a list is strictly increasing.
func increasing(list []int) bool {
	for i := 1; i < len(list); i++ {
		if list[i-1] >= list[i] {
			return false
		}
	}
	return true
}
