package passage_test

import (
	"math/rand"
	"slices"
	"testing"

	"limitrophe/api"
	"limitrophe/passage"
)

// none is no day, and never the day that says never.
const (
	none  = -1
	never = 1001
)

// list makes a list, way a way, and herd a herd.
func list(n ...int) []int { return n }
func way(from, to, days, heads, needs, gives, lo, hi int) passage.Way {
	return passage.Way{From: from, To: to, Days: days, Heads: heads, Needs: needs, Gives: gives, Open: api.Span{Lo: lo, Hi: hi}}
}
func herd(post, day, papers int) passage.Herd {
	return passage.Herd{Post: post, Day: day, Papers: papers}
}

// path makes a way that is always open and needs no papers, of some days; track makes one that bears some heads.
func path(from, to, days int) passage.Way   { return way(from, to, days, 0, 0, 0, 0, 1000) }
func track(from, to, heads int) passage.Way { return way(from, to, 0, heads, 0, 0, 0, 1000) }

// net makes a net of ways.
func net(posts int, ways ...passage.Way) passage.Net { return passage.Net{Posts: posts, Ways: ways} }

// pastures is the net of example 1.
func pastures() passage.Net {
	return net(4, way(0, 1, 2, 50, 0, 0, 0, 100), way(1, 3, 3, 30, 1, 0, 20, 40), way(1, 2, 1, 40, 0, 1, 0, 100),
		way(2, 1, 1, 40, 0, 0, 0, 100), way(2, 3, 9, 10, 0, 0, 0, 100))
}

// row has 16 times the same day, and rows has such a row for each of some days.
func row(day int) []int { return slices.Repeat(list(day), 16) }
func rows(days ...int) [][]int {
	var all [][]int
	for _, day := range days {
		all = append(all, row(day))
	}
	return all
}

// copyNet and copyRows return copies that share no memory.
func copyNet(n passage.Net) passage.Net {
	return passage.Net{Posts: n.Posts, Ways: slices.Clone(n.Ways)}
}
func copyRows(calendar [][]int) [][]int {
	calendar = slices.Clone(calendar)
	for post := range calendar {
		calendar[post] = slices.Clone(calendar[post])
	}
	return calendar
}

// count is 1 of what is so, and 0 of what is not.
func count(is bool) int {
	if is {
		return 1
	}
	return 0
}

// expect reports an error that is not the one wanted.
func expect(t *testing.T, what string, got, want api.Errno) {
	t.Helper()
	if got != want {
		t.Errorf("%s: error %d, not %d", what, got, want)
	}
}

// anyPapers returns a set of papers, a small one more often.
func anyPapers(r *rand.Rand) int {
	switch r.Intn(4) {
	case 0:
		return 1 << r.Intn(4)
	case 1:
		return r.Intn(16)
	}
	return 0
}

// anySpan returns a span within some days.
func anySpan(r *rand.Rand, first, last int) api.Span {
	a, b := first+r.Intn(last-first+1), first+r.Intn(last-first+1)
	if r.Intn(3) == 0 {
		a = 0
	}
	if r.Intn(3) == 0 {
		b = 1000
	}
	return api.Span{Lo: min(a, b), Hi: max(a, b)}
}

// anyEnds returns two of so many posts, at least two.
func anyEnds(r *rand.Rand, posts int) (from, to int) {
	from, to = r.Intn(posts), r.Intn(posts-1)
	if to >= from {
		to++
	}
	return from, to
}

// season has the days within which ways are open, and how many days they take at most.
type season struct{ first, last, long int }

// anySeason returns one that is short, that is long, or that is the last one of all.
func anySeason(r *rand.Rand) season {
	return []season{{0, 12, 3}, {0, 60, 10}, {0, 1000, 200}, {980, 1000, 5}, {0, 1000, 1000}, {5, 9, 1}}[r.Intn(6)]
}

// anyWay returns a way for a season between two of so many posts, at least two, which bears up to so many heads.
func anyWay(r *rand.Rand, s season, posts, heads int) passage.Way {
	from, to := anyEnds(r, posts)
	w := passage.Way{From: from, To: to, Days: r.Intn(s.long + 1), Heads: r.Intn(heads + 1)}
	w.Needs, w.Gives, w.Open = anyPapers(r), anyPapers(r), anySpan(r, s.first, s.last)
	if r.Intn(4) == 0 {
		w.Days = 0
	}
	return w
}

// anyNet returns a net for a season, with up to so many posts and ways, which bear up to so many heads.
func anyNet(r *rand.Rand, s season, posts, ways, heads int) passage.Net {
	n := net(1 + r.Intn(posts))
	for range r.Intn(ways+1) * min(1, n.Posts-1) {
		n.Ways = append(n.Ways, anyWay(r, s, n.Posts, heads))
	}
	return n
}

// anyHerd returns a herd that is on its way in a season.
func anyHerd(r *rand.Rand, n passage.Net, s season) passage.Herd {
	h := herd(r.Intn(n.Posts), s.first+r.Intn(s.last-s.first+1)/(1+r.Intn(4)), 0)
	if r.Intn(2) == 0 {
		h.Papers = anyPapers(r)
	}
	return h
}

// anyRoute returns a list of ways of a net, most of which a herd can take one after the other.
func anyRoute(r *rand.Rand, n passage.Net, h passage.Herd) []int {
	var route []int
	for range r.Intn(8) * min(1, len(n.Ways)) {
		number := r.Intn(len(n.Ways))
		for range r.Intn(100) {
			if _, can := taken(n.Ways[number], h); can {
				break
			}
			number = r.Intn(len(n.Ways))
		}
		h, _ = taken(n.Ways[number], h)
		route = append(route, number)
	}
	return route
}

// anyPastures returns some sources and some goals of a net of at least two posts.
func anyPastures(r *rand.Rand, n passage.Net) (from, to []int) {
	source, goal := anyEnds(r, n.Posts)
	kind := 2 + r.Intn(6)
	for post := range n.Posts {
		switch side := r.Intn(kind); {
		case post == source || side == 0 && post != goal:
			from = append(from, post)
		case post == goal || side == 1:
			to = append(to, post)
		}
	}
	return from, to
}

// anyDriven returns a net of at least two posts for drives, with up to so many posts, ways and heads.
func anyDriven(r *rand.Rand, posts, ways, heads int) passage.Net {
	n := net(2+r.Intn(posts-1), make([]passage.Way, r.Intn(ways+1))...)
	for i := range n.Ways {
		from, to := anyEnds(r, n.Posts)
		n.Ways[i] = track(from, to, r.Intn(heads+1))
		if heads == 1000 && r.Intn(3) == 0 {
			n.Ways[i].Heads = list(0, 1, 999, 1000)[r.Intn(4)]
		}
	}
	return n
}
