package barter

import "limitrophe/api"

// Check returns the error of a land.
func Check(l Land) api.Errno {
	if !between(len(l.Stretches), 1, MaxStretches) || len(l.Villages) > MaxVillages {
		return api.ErrCount
	}
	if !every(l.Villages, within(North, South)) {
		return api.ErrValue
	}
	for _, s := range l.Stretches {
		if e := l.checkStretch(s); e != api.OK {
			return e
		}
	}
	return api.OK
}

// checkStretch returns the error of a stretch of a land whose villages are valid.
func (l Land) checkStretch(s Stretch) api.Errno {
	isWorth := within(1, MaxWorth)
	switch {
	case !between(s.Owner, North, South) || !isWorth(s.North) || !isWorth(s.South):
		return api.ErrValue
	case s.Well == None:
		return api.OK
	case !between(s.Well, 0, len(l.Villages)-1):
		return api.ErrArg
	case l.Villages[s.Well] != s.Owner:
		return api.ErrClash
	}
	return api.OK
}

// checkExchange returns the error of a land, then that of an exchange.
func checkExchange(l Land, x Exchange) api.Errno {
	if e := Check(l); e != api.OK {
		return e
	}
	switch {
	case !between(x.Whole, 1, MaxWhole):
		return api.ErrValue
	case len(x.Parts) != len(l.Stretches):
		return api.ErrCount
	case !every(x.Parts, within(0, x.Whole)):
		return api.ErrValue
	}
	return api.OK
}

// within returns what asks whether a number is from one number to another one.
func within(least, most int) func(int) bool {
	return func(n int) bool { return between(n, least, most) }
}

// every reports whether something holds for every element of a list.
func every[T any](list []T, holds func(T) bool) bool {
	for _, x := range list {
		if !holds(x) {
			return false
		}
	}
	return true
}

// between reports whether a number is from one number to another one.
func between(n, least, most int) bool { return n >= least && n <= most }
