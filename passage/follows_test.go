package passage_test

import (
	"math/rand"
	"slices"
	"testing"

	"limitrophe/api"
	"limitrophe/passage"
)

// orNever returns days with the day that says never where there is none.
func orNever(days []int) []int {
	days = slices.Clone(days)
	for post, day := range days {
		if day == none {
			days[post] = never
		}
	}
	return days
}

// nowhereLater reports days of which one is later than the other one for the same post, and returns whether one is earlier.
func nowhereLater(t *testing.T, what string, days, than []int) bool {
	t.Helper()
	days, than = orNever(days), orNever(than)
	for post := range than {
		if days[post] > than[post] {
			t.Error(what, "is later:", days, than)
		}
	}
	return !slices.Equal(days, than)
}

// eased returns a net with a way more, or with one that is open longer, if there are posts for ways.
func eased(r *rand.Rand, n passage.Net, s season, heads int) passage.Net {
	n = copyNet(n)
	switch {
	case n.Posts > 1 && (r.Intn(2) == 0 || len(n.Ways) == 0):
		n.Ways = slices.Insert(n.Ways, r.Intn(len(n.Ways)+1), anyWay(r, s, n.Posts, heads))
	case len(n.Ways) > 0:
		open := &n.Ways[r.Intn(len(n.Ways))].Open
		open.Lo, open.Hi = r.Intn(open.Lo+1), open.Hi+r.Intn(1001-open.Hi)
	}
	return n
}

// P9.7, P0.10: every herd that is not barred has a route, which brings it to its post on the earliest day, as a calendar
// proves.
func TestEveryHerdHasARoute(t *testing.T) {
	r := rand.New(rand.NewSource(21))
	var are [2]int
	for range 2000 {
		s := anySeason(r)
		n := anyNet(r, s, 10, 24, 3)
		h := anyHerd(r, n, s)
		days := sent(t, n, h)
		to := r.Intn(n.Posts)
		barred, e := passage.Barred(n, []passage.Herd{h}, list(to))
		if is := len(barred) > 0; e != api.OK || is != (days[to] == none) {
			t.Error(n, h, to, barred, days, e)
		}
		are[len(barred)]++
	}
	if min(are[0], are[1]) < 400 {
		t.Error("too few herds of some kind were tried:", are)
	}
}

// P9.7: no calendar that holds proves a later day than the earliest one, nor is a herd there on an earlier day by any route.
func TestNoCalendarProvesMore(t *testing.T) {
	r := rand.New(rand.NewSource(22))
	held, arrived := 0, 0
	for range 5000 {
		s := anySeason(r)
		n := anyNet(r, s, 6, 23, 3)
		h := anyHerd(r, n, s)
		days, _ := passage.Earliest(n, h)
		other := anyHerd(r, n, s)
		calendar, _ := passage.Calendar(eased(r, n, s, 3), other)
		calendar[h.Post][h.Papers] = min(calendar[h.Post][h.Papers], h.Day)
		for post, day := range orNever(days) {
			if proved, e := passage.Proves(n, h, calendar, post); e == api.OK {
				held++
				if proved > day {
					t.Error("a later day is proved:", n, h, calendar, post, proved, day)
				}
			}
		}
		there, e := passage.Follow(n, h, anyRoute(r, n, h))
		if e == api.OK {
			arrived++
			if there.Day < days[there.Post] || days[there.Post] == none {
				t.Error("a route leads there earlier:", n, h, there, days)
			}
		}
	}
	if min(held, arrived) < 1000 {
		t.Error("too few calendars or routes were tried:", held, arrived)
	}
}

// P9.7: who is at a post earlier, or has a paper more, is nowhere later.
func TestEarlierOrWithMorePapers(t *testing.T) {
	r := rand.New(rand.NewSource(23))
	var earlier [2]int
	for range 6000 {
		s := anySeason(r)
		n := anyNet(r, s, 10, 24, 3)
		h := anyHerd(r, n, s)
		days, _ := passage.Earliest(n, h)
		better, kind := h, r.Intn(2)
		if kind == 0 {
			better.Day -= r.Intn(min(h.Day, s.long) + 1)
		} else {
			better.Papers |= 1 << r.Intn(4)
		}
		then, e := passage.Earliest(n, better)
		expect(t, "a better herd", e, api.OK)
		is := nowhereLater(t, "who is better off", then, days)
		then[h.Post], days[h.Post] = 0, 0
		earlier[kind] += count(is && !slices.Equal(then, days))
	}
	if min(earlier[0], earlier[1]) < 200 {
		t.Error("too few herds were better off:", earlier)
	}
}

// P9.7: a way more, or one that is open longer, never makes a day later, nor a drive less.
func TestMoreWays(t *testing.T) {
	r := rand.New(rand.NewSource(24))
	earlier, more := 0, 0
	for range 6000 {
		s := anySeason(r)
		n := anyNet(r, s, 10, 23, list(3, 1000)[r.Intn(2)])
		if n.Posts == 1 {
			continue
		}
		h := anyHerd(r, n, s)
		from, to := anyPastures(r, n)
		wider := eased(r, n, s, 3)
		days, e := passage.Earliest(n, h)
		then, f := passage.Earliest(wider, h)
		_, most, g := passage.Drive(n, from, to)
		_, now, k := passage.Drive(wider, from, to)
		if e != api.OK || f != api.OK || g != api.OK || k != api.OK || now < most || len(wider.Ways) == len(n.Ways) && now != most {
			t.Error("a drive is less:", n, wider, from, to, most, now, e, f, g, k)
		}
		earlier += count(nowhereLater(t, "who has more ways", then, days))
		more += count(now > most)
	}
	if min(earlier, more) < 100 {
		t.Error("too few days were earlier, or drives more:", earlier, more)
	}
}

// P9.7, P0.10: as many heads pass as a cut bars, and no more: no cut bars fewer heads than some drive brings.
func TestNoDriveBringsMore(t *testing.T) {
	r := rand.New(rand.NewSource(25))
	tight := 0
	for range 4000 {
		n := anyDriven(r, 10, 24, list(1, 3, 1000)[r.Intn(3)])
		from, to := anyPastures(r, n)
		most, _ := driven(t, n, from, to)
		all := cuts(n, from, to)
		cut := all[r.Intn(len(all))]
		bars, e := passage.Bars(n, from, to, cut)
		if bars < most || e != api.OK {
			t.Error("a cut bars fewer:", n, from, to, cut, bars, most, e)
		}
		if brings, e := passage.Brings(n, from, to, someDrive(r, n, from, to)); e == api.OK && brings > most {
			t.Error("a drive brings more:", n, from, to, brings, most)
		}
		tight += count(bars == most && most > 0)
	}
	if tight < 300 {
		t.Error("too few nets with heads were tried:", tight)
	}
}

// P9.7: each cut that bars the fewest heads has only narrow ways, and ways that bear none, that lead out of it.
func TestWaysOutOfCuts(t *testing.T) {
	r := rand.New(rand.NewSource(26))
	var wide, empty, are int
	for range 2000 {
		n := anyDriven(r, 9, 24, list(1, 3, 1000)[r.Intn(3)])
		from, to := anyPastures(r, n)
		_, narrow := driven(t, n, from, to)
		wide += count(len(narrow) < len(n.Ways))
		cuts, _ := fewest(n, from, to)
		for _, cut := range cuts {
			for number, w := range n.Ways {
				if !slices.Contains(cut, w.From) || slices.Contains(cut, w.To) {
					continue
				}
				is := slices.Contains(narrow, number)
				if !is && w.Heads > 0 {
					t.Error("a way out of a cut is not narrow:", n, from, to, cut, number)
				}
				are, empty = are+count(is), empty+count(w.Heads == 0)
			}
		}
	}
	if min(wide, empty, are) < 500 {
		t.Error("too few ways of some kind were tried:", wide, empty, are)
	}
}
