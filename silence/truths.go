package silence

import (
	"iter"
	"slices"

	"limitrophe/api"
)

// stand is how far a file is dated: how many of its papers are, and the years of the first and the last one of the chain that
// has got to there.
type stand struct{ papers, first, last int }

// course is how a file can go on to its end.
type course struct {
	can   bool
	since int   // the year in which the last right arises on the way, if one does
	years []int // those of the papers that are left
}

// outlook has the courses that files can take: those on which the right of a side is the last one that arises, and those on
// which Nobody's arises any more.
type outlook [Nobody + 1]course

// future is a valid file at work in all truths.
type future struct {
	File
	take  func(years ...int) int // which of several years in which the last right can arise is taken
	known map[stand]outlook
}

// futureOf puts a valid file to work in all truths.
func futureOf(f File, take func(years ...int) int) future {
	return future{f, take, map[stand]outlook{}}
}

// years yields the years of a span.
func years(s api.Span) iter.Seq[int] {
	return func(yield func(int) bool) {
		for year := s.Lo; year <= s.Hi; year++ {
			if !yield(year) {
				return
			}
		}
	}
}

// date returns how far the file is dated if the next paper is of a year.
func (f future) date(from stand, year int) stand {
	to := stand{papers: from.papers + 1, first: year, last: year}
	if from.papers > 0 && f.belongs(from.papers, from.last, year) {
		to.first = from.first
	}
	return to
}

// goOn returns how the file can go on to its end. That depends on no more of the years up to there than a stand has: only
// the chain that has got to there can still give rise to a right.
func (f future) goOn(from stand) outlook {
	if out, is := f.known[from]; is {
		return out
	}
	var out outlook
	if from.papers == len(f.Papers) {
		out[Nobody].can = true
		return out
	}
	paper := f.Papers[from.papers]
	for year := range years(paper.Year) {
		to := f.date(from, year)
		for owner, next := range f.goOn(to) {
			if owner == Nobody && f.arises(to.first, from.last, year) {
				owner, next.since = paper.Side, year
			}
			next.years = append([]int{year}, next.years...)
			out[owner] = f.choose(out[owner], next)
		}
	}
	f.known[from] = out
	return out
}

// choose returns the one of two courses whose year is taken, if the file can go on by both.
func (f future) choose(one, other course) course {
	if !other.can || one.can && f.take(one.since, other.since) == one.since {
		return one
	}
	return other
}

// least and greatest return the least and the greatest of some years.
func least(years ...int) int    { return slices.Min(years) }
func greatest(years ...int) int { return slices.Max(years) }
