package enclave

import (
	"slices"

	"limitrophe/api"
)

// Check returns the error of a map.
func Check(m Map) api.Errno {
	switch {
	case !m.hasRows():
		return api.ErrCount
	case !every(m.Owners, within(0, MaxState)):
		return api.ErrValue
	}
	return api.OK
}

// CheckLand returns the error of a land.
func CheckLand(l Land) api.Errno {
	directions := l.directions()
	isCounted := func(d direction) bool { return len(d.houses(l)) == len(l.Owners) }
	switch {
	case !l.plots().hasRows() || !every(directions[:], isCounted):
		return api.ErrCount
	case !every(l.Owners, within(None, second)) || !every(directions[:], l.areHouses):
		return api.ErrValue
	case !slices.Contains(l.Owners, first) || !slices.Contains(l.Owners, second):
		return api.ErrNone
	}
	return api.OK
}

// hasRows reports whether there are so many plots as there can be, in whole rows.
func (m Map) hasRows() bool {
	return between(len(m.Owners), 1, MaxPlots) && m.Wide >= 1 && len(m.Owners)%m.Wide == 0
}

// areHouses reports whether the numbers of houses that look to a direction are allowed, if there are as many as plots.
func (l Land) areHouses(d direction) bool {
	for plot, houses := range d.houses(l) {
		if !between(houses, 0, MaxHouses) || houses > 0 && d.isLast(plot) {
			return false
		}
	}
	return true
}

// checkWalks returns the error that walks have even if nobody knows whether they can be gone.
func (l Land) checkWalks(walks []Walk) api.Errno {
	isShort := func(w Walk) bool { return len(w.Plots) <= MaxPlots }
	hasPlots := func(w Walk) bool { return every(w.Plots, within(0, len(l.Owners)-1)) }
	hasFamilies := func(w Walk) bool { return between(w.Many, 1, MaxHouses) }
	switch {
	case len(walks) > MaxWalks || !every(walks, isShort):
		return api.ErrCount
	case !every(walks, hasPlots):
		return api.ErrArg
	case !every(walks, hasFamilies):
		return api.ErrValue
	}
	return api.OK
}

// within returns what asks whether a number is from one number to another one.
func within(least, most int) func(int) bool {
	return func(n int) bool { return between(n, least, most) }
}

// every reports whether something holds for every element of a list.
func every[T any](list []T, holds func(T) bool) bool {
	for _, x := range list {
		if !holds(x) {
			return false
		}
	}
	return true
}

// between reports whether a number is from one number to another one.
func between(n, least, most int) bool { return n >= least && n <= most }
