package passage

import (
	"slices"

	"limitrophe/api"
)

// Check returns the error of a net.
func Check(n Net) api.Errno {
	if !between(n.Posts, 1, MaxPosts) || len(n.Ways) > MaxWays {
		return api.ErrCount
	}
	for _, way := range n.Ways {
		if e := n.checkWay(way); e != api.OK {
			return e
		}
	}
	return api.OK
}

// checkWay returns the error of a way of a net.
func (n Net) checkWay(w Way) api.Errno {
	areDays := w.Open.Lo >= 0 && w.Open.Lo <= w.Open.Hi && w.Open.Hi <= MaxDay
	switch {
	case !n.isPost(w.From) || !n.isPost(w.To) || w.From == w.To:
		return api.ErrArg
	case !between(w.Days, 0, MaxDay) || !between(w.Heads, 0, MaxHeads):
		return api.ErrValue
	case !isSet(w.Needs) || !isSet(w.Gives) || !areDays:
		return api.ErrValue
	}
	return api.OK
}

// checkHerd returns the error of a net, or else of a herd.
func (n Net) checkHerd(h Herd) api.Errno {
	if e := Check(n); e != api.OK {
		return e
	}
	switch {
	case !n.isPost(h.Post):
		return api.ErrArg
	case !between(h.Day, 0, MaxDay) || !isSet(h.Papers):
		return api.ErrValue
	}
	return api.OK
}

// checkHerds returns the error of a net, or else of herds and the posts to which they want to come.
func (n Net) checkHerds(l []Herd, to []int) api.Errno {
	if e := Check(n); e != api.OK {
		return e
	}
	if len(l) > MaxHerds || len(to) != len(l) {
		return api.ErrCount
	}
	for _, h := range l {
		if e := n.checkHerd(h); e != api.OK {
			return e
		}
	}
	if !every(to, n.isPost) {
		return api.ErrArg
	}
	return api.OK
}

// checkCalendar returns the error that a calendar has even if nobody knows whether it holds.
func (n Net) checkCalendar(calendar [][]int) api.Errno {
	isWhole := func(row []int) bool { return len(row) == sets }
	hasDays := func(row []int) bool { return every(row, within(0, never)) }
	switch {
	case len(calendar) != n.Posts || !every(calendar, isWhole):
		return api.ErrCount
	case !every(calendar, hasDays):
		return api.ErrValue
	}
	return api.OK
}

// checkPastures returns the error of a net, or else of pastures.
func (n Net) checkPastures(from, to []int) api.Errno {
	if e := Check(n); e != api.OK {
		return e
	}
	isGoal := func(post int) bool { return slices.Contains(to, post) }
	switch {
	case !every(from, n.isPost) || !every(to, n.isPost):
		return api.ErrArg
	case len(from) == 0 || len(to) == 0:
		return api.ErrCount
	case !isIncreasing(from) || !isIncreasing(to):
		return api.ErrOrder
	case slices.ContainsFunc(from, isGoal):
		return api.ErrTwice
	}
	return api.OK
}

// checkHeads returns the error that numbers of heads have even if nobody knows whether they are a drive.
func (n Net) checkHeads(heads []int) api.Errno {
	if len(heads) != len(n.Ways) {
		return api.ErrCount
	}
	for number, way := range n.Ways {
		if !between(heads[number], 0, way.Heads) {
			return api.ErrValue
		}
	}
	return api.OK
}

// checkCut returns the error of a cut between pastures.
func (n Net) checkCut(from, to, posts []int) api.Errno {
	isInside := func(post int) bool { return slices.Contains(posts, post) }
	switch {
	case !every(posts, n.isPost):
		return api.ErrArg
	case !isIncreasing(posts):
		return api.ErrOrder
	case !every(from, isInside) || slices.ContainsFunc(to, isInside):
		return api.ErrFalse
	}
	return api.OK
}

// isPost reports whether a number is that of a post.
func (n Net) isPost(post int) bool { return between(post, 0, n.Posts-1) }

// isSet reports whether a number is a set of papers.
func isSet(papers int) bool { return between(papers, 0, sets-1) }

// isIncreasing reports whether each number of a list but the first is greater than the one before.
func isIncreasing(list []int) bool {
	for i := 1; i < len(list); i++ {
		if list[i] <= list[i-1] {
			return false
		}
	}
	return true
}

// within returns what asks whether a number is from one number to another one.
func within(least, most int) func(int) bool {
	return func(n int) bool { return between(n, least, most) }
}

// every reports whether something holds for every element of a list.
func every[T any](list []T, holds func(T) bool) bool {
	for _, x := range list {
		if !holds(x) {
			return false
		}
	}
	return true
}

// between reports whether a number is from one number to another one.
func between(n, least, most int) bool { return n >= least && n <= most }
