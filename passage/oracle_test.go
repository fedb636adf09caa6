package passage_test

import (
	"slices"

	"limitrophe/passage"
)

// has reports whether all papers of one set are in another one, paper by paper.
func has(papers, needs int) bool {
	for _, paper := range list(1, 2, 4, 8) {
		if needs/paper%2 == 1 && papers/paper%2 == 0 {
			return false
		}
	}
	return true
}

// both returns the papers that are in one of two sets, paper by paper.
func both(a, b int) int {
	papers := 0
	for _, paper := range list(1, 2, 4, 8) {
		if a/paper%2+b/paper%2 > 0 {
			papers += paper
		}
	}
	return papers
}

// taken returns the herd behind a way, word by word, and whether it can take it.
func taken(w passage.Way, h passage.Herd) (passage.Herd, bool) {
	leaves := h.Day
	if w.Open.Lo > leaves {
		leaves = w.Open.Lo
	}
	next := herd(w.To, leaves+w.Days, both(h.Papers, w.Gives))
	return next, h.Post == w.From && has(h.Papers, w.Needs) && h.Day <= w.Open.Hi && next.Day <= 1000
}

// followed returns the herd behind a route, and whether it can take each way of it.
func followed(n passage.Net, h passage.Herd, route []int) (passage.Herd, bool) {
	for _, number := range route {
		next, can := taken(n.Ways[number], h)
		if !can {
			return passage.Herd{}, false
		}
		h = next
	}
	return h, true
}

// places has for each post and each set of papers the first day on which a herd is there.
type places [10][16]int

// seen returns where a herd can be on which day, if it may wait as long as it likes: day by day, whoever is at a post
// on a day on which a way is open may leave then.
func seen(n passage.Net, h passage.Herd) places {
	var first places
	var there [1001][10][16]bool
	for post := range first {
		first[post] = [16]int(row(never))
	}
	there[h.Day][h.Post][h.Papers] = true
	for day := h.Day; day <= 1000; day++ {
		if day > h.Day {
			for post, sets := range there[day-1] {
				for papers, is := range sets {
					there[day][post][papers] = there[day][post][papers] || is
				}
			}
		}
		for again := true; again; {
			again = false
			for _, w := range n.Ways {
				for papers, is := range there[day][w.From] {
					if !is || !has(papers, w.Needs) || day < w.Open.Lo || day > w.Open.Hi || day+w.Days > 1000 {
						continue
					}
					next := &there[day+w.Days][w.To][both(papers, w.Gives)]
					again = again || !*next && w.Days == 0
					*next = true
				}
			}
		}
		for post, sets := range there[day] {
			for papers, is := range sets {
				if is {
					first[post][papers] = min(first[post][papers], day)
				}
			}
		}
	}
	return first
}

// days returns for each post of a net the first day on which a herd is there, none if it never is.
func (p places) days(n passage.Net) []int {
	var days []int
	for post := range n.Posts {
		day := slices.Min(p[post][:])
		if day == never {
			day = none
		}
		days = append(days, day)
	}
	return days
}

// holds reports whether a calendar holds, for each way and each set of papers.
func holds(n passage.Net, h passage.Herd, calendar [][]int) bool {
	if calendar[h.Post][h.Papers] > h.Day {
		return false
	}
	for _, w := range n.Ways {
		for papers := range 16 {
			day := calendar[w.From][papers]
			if day == never {
				continue
			}
			next, can := taken(w, herd(w.From, day, papers))
			if can && calendar[next.Post][next.Papers] > next.Day {
				return false
			}
		}
	}
	return true
}

// brought returns how many heads a drive brings, and whether it is one.
func brought(n passage.Net, from, to, heads []int) (int, bool) {
	more := make([]int, n.Posts) // how many more go from a post than come
	for number, w := range n.Ways {
		if heads[number] < 0 || heads[number] > w.Heads {
			return 0, false
		}
		more[w.From] += heads[number]
		more[w.To] -= heads[number]
	}
	brings := 0
	for post, heads := range more {
		switch {
		case slices.Contains(from, post):
			brings += heads
		case !slices.Contains(to, post) && heads != 0:
			return 0, false
		}
	}
	return brings, true
}

// barred returns how many heads a cut bars.
func barred(n passage.Net, cut []int) int {
	bars := 0
	for _, w := range n.Ways {
		if slices.Contains(cut, w.From) && !slices.Contains(cut, w.To) {
			bars += w.Heads
		}
	}
	return bars
}

// isCut reports whether posts are a cut.
func isCut(n passage.Net, from, to, posts []int) bool {
	for i, post := range posts {
		if post < 0 || post >= n.Posts || slices.Contains(to, post) || i > 0 && post <= posts[i-1] {
			return false
		}
	}
	for _, source := range from {
		if !slices.Contains(posts, source) {
			return false
		}
	}
	return true
}

// cuts returns all cuts.
func cuts(n passage.Net, from, to []int) [][]int {
	all := [][]int{nil}
	for post := range n.Posts {
		var longer [][]int
		for _, cut := range all {
			if !slices.Contains(from, post) {
				longer = append(longer, cut)
			}
			if !slices.Contains(to, post) {
				longer = append(longer, append(slices.Clone(cut), post))
			}
		}
		all = longer
	}
	return all
}

// fewest returns the cuts that bar the fewest heads, and how many these are.
func fewest(n passage.Net, from, to []int) ([][]int, int) {
	var least [][]int
	bars := 0
	for _, cut := range cuts(n, from, to) {
		switch b := barred(n, cut); {
		case least == nil || b < bars:
			least, bars = [][]int{cut}, b
		case b == bars:
			least = append(least, cut)
		}
	}
	return least, bars
}

// drives returns all drives of a net of few heads.
func drives(n passage.Net, from, to []int) [][]int {
	all := [][]int{nil}
	for _, w := range n.Ways {
		var longer [][]int
		for _, drive := range all {
			for heads := range w.Heads + 1 {
				longer = append(longer, append(slices.Clone(drive), heads))
			}
		}
		all = longer
	}
	return slices.DeleteFunc(all, func(heads []int) bool {
		_, is := brought(n, from, to, heads)
		return !is
	})
}

// mostBrought returns how many heads some drive brings at most, and how many drives bring so many.
func mostBrought(n passage.Net, from, to []int) (most, by int) {
	for _, heads := range drives(n, from, to) {
		switch brings, _ := brought(n, from, to, heads); {
		case by == 0 || brings > most:
			most, by = brings, 1
		case brings == most:
			by++
		}
	}
	return most, by
}

// narrowOnes returns the ways with one head less of which some cut bars fewer than the fewest heads.
func narrowOnes(n passage.Net, from, to []int) []int {
	var narrow []int
	_, bars := fewest(n, from, to)
	for number, w := range n.Ways {
		if w.Heads == 0 {
			continue
		}
		less := copyNet(n)
		less.Ways[number].Heads--
		if _, then := fewest(less, from, to); then < bars {
			narrow = append(narrow, number)
		}
	}
	return narrow
}
