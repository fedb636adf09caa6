package silence

import "limitrophe/api"

// Check returns the error of a file.
func Check(f File) api.Errno {
	switch {
	case !between(f.Years, 1, MaxYears) || !between(f.Gap, 1, MaxGap):
		return api.ErrValue
	case len(f.Papers) > MaxPapers:
		return api.ErrCount
	}
	ahead := -1 // the last year that the paper ahead can be of
	for _, paper := range f.Papers {
		switch {
		case !paper.isAllowed():
			return api.ErrValue
		case paper.Year.Lo <= ahead:
			return api.ErrOrder
		}
		ahead = paper.Year.Hi
	}
	return api.OK
}

// isAllowed reports whether a paper is of a side, and of a span of years that is not too wide.
func (p Paper) isAllowed() bool {
	isSide := p.Side == North || p.Side == South
	return isSide && between(p.Year.Lo, 0, p.Year.Hi) && p.Year.Hi <= MaxYear && p.Year.Hi-p.Year.Lo < MaxWide
}

// Holds reports whether years are a truth.
func Holds(f File, truth []int) (bool, api.Errno) {
	if e := Check(f); e != api.OK {
		return false, e
	}
	if len(truth) != len(f.Papers) {
		return false, api.ErrCount
	}
	for number, paper := range f.Papers {
		if !between(truth[number], paper.Year.Lo, paper.Year.Hi) {
			return false, api.OK
		}
	}
	return true, api.OK
}

// inTruth puts a file to work in a truth, or returns the error of the file, or else that of the truth.
func inTruth(f File, truth []int) (work, api.Errno) {
	is, e := Holds(f, truth)
	switch {
	case e != api.OK:
		return work{}, e
	case !is:
		return work{}, api.ErrFalse
	}
	return work{f, truth}, api.OK
}

// rightOf returns the right that arises with a paper in a truth, or the error of the truth, or else that of the paper.
func rightOf(f File, truth []int, paper int) (right, api.Errno) {
	w, e := inTruth(f, truth)
	if e != api.OK {
		return right{}, e
	}
	if !f.isPaper(paper) {
		return right{}, api.ErrArg
	}
	for _, r := range w.rights() {
		if r.paper == paper {
			return r, api.OK
		}
	}
	return right{}, api.ErrNone
}

// checkWindows returns the error that windows have even if nobody knows which papers they have.
func (r right) checkWindows(windows []int) api.Errno {
	least, most := r.years[r.start()], r.years[r.paper]-1
	isAllowed := func(window int) bool { return between(window, least, most) }
	switch {
	case !isIncreasing(windows):
		return api.ErrOrder
	case !every(windows, isAllowed):
		return api.ErrValue
	}
	return api.OK
}

// isPaper reports whether a number is that of a paper.
func (f File) isPaper(paper int) bool { return between(paper, 0, len(f.Papers)-1) }

// isIncreasing reports whether each number but the first is greater than the one before.
func isIncreasing(list []int) bool {
	for i := 1; i < len(list); i++ {
		if list[i] <= list[i-1] {
			return false
		}
	}
	return true
}

// every reports whether something holds for every element of a list.
func every[T any](list []T, holds func(T) bool) bool {
	for _, x := range list {
		if !holds(x) {
			return false
		}
	}
	return true
}

// between reports whether a number is from one number to another one.
func between(n, least, most int) bool { return n >= least && n <= most }
