package passage

import (
	"iter"
	"slices"
)

// How many sets of papers there are, and the day that says never.
const (
	sets  = 16
	never = MaxDay + 1
)

// place is where a herd can be, with the papers that it can have there.
type place struct{ post, papers int }

// step is the way by which a herd comes to a place, and the place from which it comes.
type step struct {
	way  int
	from place
}

// journey is a valid net at work for a herd that goes wherever it can.
type journey struct {
	Net
	start place
	days  [MaxPosts][sets]int // the earliest day at each post with each set of papers
	came  map[place]step      // by which way it came there, except to its start
}

// which yields the elements of a list of which something holds, with their numbers.
func which[T any](list []T, holds func(T) bool) iter.Seq2[int, T] {
	return func(yield func(int, T) bool) {
		for number, x := range list {
			if holds(x) && !yield(number, x) {
				return
			}
		}
	}
}

// place returns where a herd is, with its papers.
func (h Herd) place() place { return place{h.Post, h.Papers} }

// leaves returns the day on which a herd leaves by a way that it can take.
func (h Herd) leaves(w Way) int { return max(h.Day, w.Open.Lo) }

// canTake reports whether a herd can take a way.
func (h Herd) canTake(w Way) bool {
	hasPapers := h.Papers&w.Needs == w.Needs
	return h.Post == w.From && hasPapers && h.Day <= w.Open.Hi && h.leaves(w)+w.Days <= MaxDay
}

// behind returns where, when and with which papers a herd is behind a way that it can take.
func (h Herd) behind(w Way) Herd {
	return Herd{Post: w.To, Day: h.leaves(w) + w.Days, Papers: h.Papers | w.Gives}
}

// travel puts a valid net to work for a herd.
func travel(n Net, h Herd) *journey {
	j := &journey{Net: n, start: h.place(), came: map[place]step{}}
	for post := range j.days {
		for papers := range sets {
			j.days[post][papers] = never
		}
	}
	j.days[h.Post][h.Papers] = h.Day
	for now := range j.inTurn() {
		for number, way := range which(j.Ways, now.canTake) {
			next := now.behind(way)
			if next.Day < j.days[next.Post][next.Papers] {
				j.days[next.Post][next.Papers] = next.Day
				j.came[next.place()] = step{number, now.place()}
			}
		}
	}
	return j
}

// inTurn yields the herd at each place to which it comes, those that are there earlier first. As no way leads back to an
// earlier day, no day of a place changes any more when its turn has come.
func (j *journey) inTurn() iter.Seq[Herd] {
	return func(yield func(Herd) bool) {
		var had [MaxPosts][sets]bool
		for {
			first := Herd{Day: never}
			for post := range j.Posts {
				for papers, day := range j.days[post] {
					if day < first.Day && !had[post][papers] {
						first = Herd{Post: post, Day: day, Papers: papers}
					}
				}
			}
			if first.Day == never || !yield(first) {
				return
			}
			had[first.Post][first.Papers] = true
		}
	}
}

// comesTo reports whether a herd comes to a post.
func (j *journey) comesTo(post int) bool { return j.firstDay(post) != never }

// firstDay returns the earliest day on which a herd is at a post, whatever its papers are then.
func (j *journey) firstDay(post int) int { return slices.Min(j.days[post][:]) }

// earliest returns the earliest day for each post, None where a herd does not come.
func (j *journey) earliest() []int {
	days := make([]int, j.Posts)
	for post := range days {
		days[post] = None
		if j.comesTo(post) {
			days[post] = j.firstDay(post)
		}
	}
	return days
}

// routeTo returns the route by which a herd comes to a post on the earliest day, if it comes there.
func (j *journey) routeTo(post int) []int {
	var route []int
	at := place{post, slices.Index(j.days[post][:], j.firstDay(post))}
	for at != j.start {
		last := j.came[at]
		route = append(route, last.way)
		at = last.from
	}
	slices.Reverse(route)
	return route
}

// calendar returns the days of all places as a calendar.
func (j *journey) calendar() [][]int {
	rows := make([][]int, j.Posts)
	for post := range rows {
		rows[post] = slices.Clone(j.days[post][:])
	}
	return rows
}

// holds reports whether a calendar holds for a herd, if it has all the numbers that it needs.
func (n Net) holds(calendar [][]int, h Herd) bool {
	isLate := func(h Herd) bool { return calendar[h.Post][h.Papers] > h.Day }
	for post, row := range calendar {
		for papers, day := range row {
			now := Herd{Post: post, Day: day, Papers: papers}
			for _, way := range which(n.Ways, now.canTake) {
				if isLate(now.behind(way)) {
					return false
				}
			}
		}
	}
	return !isLate(h)
}
