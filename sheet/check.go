package sheet

import "limitrophe/api"

// Check returns the error of a set.
func Check(s Set) api.Errno {
	areSheets := func(j Joint) bool { return s.isSheet(j.A) && s.isSheet(j.B) && j.A != j.B }
	hasValues := func(j Joint) bool { return between(j.X, -Max, Max) && between(j.Y, -Max, Max) }
	switch {
	case !between(s.Sheets, 1, MaxSheets) || len(s.Joints) > MaxJoints:
		return api.ErrCount
	case !every(s.Joints, areSheets):
		return api.ErrArg
	case !every(s.Joints, hasValues):
		return api.ErrValue
	}
	return api.OK
}

// checkShifts returns the error of a set, or else of shifts of its sheets.
func (s Set) checkShifts(shifts []Shift) api.Errno {
	isShift := func(r api.Ratio) bool { return between(r.D, 1, MaxPart) && between(r.N, -MaxShift, MaxShift) }
	areShifts := func(x Shift) bool { return isShift(x.X) && isShift(x.Y) }
	if e := Check(s); e != api.OK {
		return e
	}
	switch {
	case len(shifts) != s.Sheets:
		return api.ErrArg
	case !every(shifts, areShifts):
		return api.ErrValue
	}
	return api.OK
}

// checkLegs returns the error of a set, or else the one that legs have even if nobody knows whether they are a round.
func (s Set) checkLegs(legs []Leg) api.Errno {
	hasJoint := func(l Leg) bool { return between(l.Joint, 0, len(s.Joints)-1) }
	if e := Check(s); e != api.OK {
		return e
	}
	switch {
	case !between(len(legs), 1, MaxLegs):
		return api.ErrCount
	case !every(legs, hasJoint):
		return api.ErrArg
	}
	return api.OK
}

// checkBetween returns the error of a set, or else of two sheets, or of a play even if it is not known whether it is enough.
func (s Set) checkBetween(a, b int, play api.Ratio) api.Errno {
	if e := Check(s); e != api.OK {
		return e
	}
	switch {
	case !s.isSheet(a) || !s.isSheet(b):
		return api.ErrArg
	case !between(play.D, 1, MaxPart) || !between(play.N, 0, MaxShift):
		return api.ErrValue
	}
	return api.OK
}

// checkEdges returns the error of the marks along two edges, and of a play.
func checkEdges(a, b []Mark, play int) api.Errno {
	isMark := func(m Mark) bool { return between(m.At, -Max, Max) && between(m.Kind, 0, MaxKind) }
	switch {
	case len(a) > MaxMarks || len(b) > MaxMarks:
		return api.ErrCount
	case !every(a, isMark) || !every(b, isMark) || !between(play, 0, Max):
		return api.ErrValue
	case !isIncreasing(a) || !isIncreasing(b):
		return api.ErrOrder
	}
	return api.OK
}

// checkPairs returns the error of two edges, or else the one that pairs have even if nobody knows whether they are a match.
func checkPairs(a, b []Mark, play int, list []Pair) api.Errno {
	hasMarks := func(p Pair) bool { return between(p.A, 0, len(a)-1) && between(p.B, 0, len(b)-1) }
	if e := checkEdges(a, b, play); e != api.OK {
		return e
	}
	if !every(list, hasMarks) {
		return api.ErrArg
	}
	return api.OK
}

// checkLevels returns the error of two edges, or else the one that numbers have even if nobody knows whether they are levels.
func checkLevels(a, b []Mark, play int, levels [][]int) api.Errno {
	isWhole := func(row []int) bool { return len(row) == len(b) }
	isLevel := func(level int) bool { return between(level, 0, MaxMarks) }
	hasLevels := func(row []int) bool { return every(row, isLevel) }
	if e := checkEdges(a, b, play); e != api.OK {
		return e
	}
	switch {
	case len(levels) != len(a) || !every(levels, isWhole):
		return api.ErrArg
	case !every(levels, hasLevels):
		return api.ErrValue
	}
	return api.OK
}

// isSheet reports whether a number is that of a sheet.
func (s Set) isSheet(sheet int) bool { return between(sheet, 0, s.Sheets-1) }

// isIncreasing reports whether each mark but the first is farther along an edge than the one before.
func isIncreasing(marks []Mark) bool {
	for i := 1; i < len(marks); i++ {
		if marks[i].At <= marks[i-1].At {
			return false
		}
	}
	return true
}

// every reports whether something holds for every element of a list.
func every[T any](list []T, holds func(T) bool) bool {
	for _, x := range list {
		if !holds(x) {
			return false
		}
	}
	return true
}

// between reports whether a number is from one number to another one.
func between(n, least, most int) bool { return n >= least && n <= most }
