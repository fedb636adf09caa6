package strip

import "limitrophe/api"

// Check returns the error of a line.
func Check(l Line) api.Errno {
	fewest := 2
	if l.Closed {
		fewest = 3
	}
	switch {
	case !between(len(l.Pillars), fewest, MaxPillars):
		return api.ErrCount
	case !every(l.Pillars, allowedBox):
		return api.ErrValue
	case !l.Closed && !eastward(l.Pillars):
		return api.ErrOrder
	}
	return api.OK
}

// checkPoints returns the error of a line, then that of points.
func checkPoints(l Line, points ...api.Point) api.Errno {
	if e := Check(l); e != api.OK {
		return e
	}
	if !every(points, allowedPoint) {
		return api.ErrValue
	}
	return api.OK
}

// checkTruth returns the error of a line, then that of a truth.
func checkTruth(l Line, truth []api.Point) api.Errno {
	if e := Check(l); e != api.OK {
		return e
	}
	if len(truth) != len(l.Pillars) {
		return api.ErrArg
	}
	for number := range len(l.Pillars) {
		if !l.Pillars[number].has(truth[number]) {
			return api.ErrFalse
		}
	}
	return api.OK
}

// checkField returns the error of a field.
func checkField(f Field) api.Errno {
	if !allowedSpan(f.X) || !allowedSpan(f.Y) {
		return api.ErrValue
	}
	if (f.X.Hi-f.X.Lo+1)*(f.Y.Hi-f.Y.Lo+1) > MaxPosts {
		return api.ErrLarge
	}
	return api.OK
}

// allowedSpan reports whether a span of coordinates is allowed.
func allowedSpan(s api.Span) bool {
	return between(s.Lo, -Max, Max) && between(s.Hi, s.Lo, Max)
}

// allowedBox reports whether a box is allowed.
func allowedBox(b Box) bool { return allowedSpan(b.X) && allowedSpan(b.Y) }

// allowedPoint reports whether a point is allowed.
func allowedPoint(p api.Point) bool { return near(p, Max) }

// allowedParting reports whether the coordinates of a parting are allowed.
func allowedParting(line Parting) bool { return near(line.From, 10*Max) && near(line.To, 10*Max) }

// near reports whether the coordinates of a point are at most so far from 0.
func near(p api.Point, far int) bool {
	return between(p.X, -far, far) && between(p.Y, -far, far)
}

// has reports whether a place is in a box.
func (b Box) has(p api.Point) bool {
	return between(p.X, b.X.Lo, b.X.Hi) && between(p.Y, b.Y.Lo, b.Y.Hi)
}

// eastward reports whether each box lies east of the one before.
func eastward(boxes []Box) bool {
	for number := 1; number < len(boxes); number++ {
		if boxes[number].X.Lo <= boxes[number-1].X.Hi {
			return false
		}
	}
	return true
}

// every reports whether something holds for every element of a list.
func every[T any](list []T, holds func(T) bool) bool {
	for _, x := range list {
		if !holds(x) {
			return false
		}
	}
	return true
}

// between reports whether a number is from one number to another one.
func between(n, least, most int) bool { return n >= least && n <= most }
