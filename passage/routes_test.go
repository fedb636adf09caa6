package passage_test

import (
	"math/rand"
	"slices"
	"testing"

	"limitrophe/api"
	"limitrophe/passage"
)

// P9.1: which routes a herd can take, and where, when and with which papers it is behind them.
func TestFollow(t *testing.T) {
	gate := net(2, way(0, 1, 3, 0, 0, 0, 20, 40))
	last := net(3, way(0, 1, 10, 0, 0, 0, 990, 1000), way(0, 2, 0, 0, 0, 0, 1000, 1000), way(0, 2, 1, 0, 0, 0, 1000, 1000), way(0, 1, 1000, 0, 0, 0, 0, 5))
	customs := net(2, way(0, 1, 1, 0, 5, 10, 0, 100), way(1, 0, 1, 0, 15, 1, 0, 100))
	round := net(2, way(0, 1, 0, 0, 0, 1, 5, 5), way(1, 0, 0, 0, 0, 2, 5, 5))
	null := passage.Herd{}
	for _, x := range []struct {
		what  string
		n     passage.Net
		h     passage.Herd
		route []int
		want  passage.Herd
		e     api.Errno
	}{
		{"example 2, over the customs post", pastures(), herd(0, 5, 0), list(0, 2, 4), herd(3, 17, 1), api.OK},
		{"example 2, back to the gate", pastures(), herd(0, 5, 0), list(0, 2, 3), herd(1, 9, 1), api.OK},
		{"example 2, through the gate", pastures(), herd(0, 5, 0), list(0, 2, 3, 1), herd(3, 23, 1), api.OK},
		{"example 2, with the paper from the beginning", pastures(), herd(0, 5, 1), list(0, 1), herd(3, 23, 1), api.OK},
		{"example 2, without it", pastures(), herd(0, 5, 0), list(0, 1), null, api.ErrFalse},
		{"example 3, too late for the gate", pastures(), herd(0, 60, 0), list(0, 2, 3, 1), null, api.ErrFalse},
		{"example 3, in time for the other way", pastures(), herd(0, 60, 0), list(0, 2, 4), herd(3, 72, 1), api.OK},
		{"example 3, on to the customs post on day 97", pastures(), herd(0, 95, 0), list(0, 2, 4), herd(3, 107, 1), api.OK},
		{"example 3, nowhere from the gate", pastures(), herd(0, 99, 0), list(0, 2), null, api.ErrFalse},
		{"the empty route", pastures(), herd(2, 1000, 9), nil, herd(2, 1000, 9), api.OK},
		{"before it opens", gate, herd(0, 0, 6), list(0), herd(1, 23, 6), api.OK},
		{"a day before it opens", gate, herd(0, 19, 6), list(0), herd(1, 23, 6), api.OK},
		{"just when it opens", gate, herd(0, 20, 6), list(0), herd(1, 23, 6), api.OK},
		{"a day after it opens", gate, herd(0, 21, 6), list(0), herd(1, 24, 6), api.OK},
		{"on the last day of the way", gate, herd(0, 40, 6), list(0), herd(1, 43, 6), api.OK},
		{"a day too late", gate, herd(0, 41, 6), list(0), null, api.ErrFalse},
		{"against the way", gate, herd(1, 20, 6), list(0), null, api.ErrFalse},
		{"twice by a way that does not come back", gate, herd(0, 20, 6), list(0, 0), null, api.ErrFalse},
		{"it ends on the last day", last, herd(0, 990, 0), list(0), herd(1, 1000, 0), api.OK},
		{"it opens in time to end on the last day", last, herd(0, 3, 0), list(0), herd(1, 1000, 0), api.OK},
		{"it would end on the day behind", last, herd(0, 991, 0), list(0), null, api.ErrFalse},
		{"no day is needed on the last day", last, herd(0, 1000, 0), list(1), herd(2, 1000, 0), api.OK},
		{"a day is needed on the last day", last, herd(0, 1000, 0), list(2), null, api.ErrFalse},
		{"it never ends in time, however early", last, herd(0, 0, 0), list(2), null, api.ErrFalse},
		{"all days there are", last, herd(0, 0, 0), list(3), herd(1, 1000, 0), api.OK},
		{"all days there are, begun too late", last, herd(0, 1, 0), list(3), null, api.ErrFalse},
		{"with just the papers that it needs", customs, herd(0, 1, 5), list(0), herd(1, 2, 15), api.OK},
		{"with more papers", customs, herd(0, 1, 7), list(0), herd(1, 2, 15), api.OK},
		{"with one of two papers", customs, herd(0, 1, 1), list(0), null, api.ErrFalse},
		{"with the other one of two papers", customs, herd(0, 1, 4), list(0), null, api.ErrFalse},
		{"with all papers but one", customs, herd(0, 1, 14), list(0), null, api.ErrFalse},
		{"papers that were given are needed, those that one has stay", customs, herd(0, 1, 5), list(0, 1), herd(0, 3, 15), api.OK},
		{"ways that come again, and take no day", round, herd(0, 2, 8), list(0, 1, 0, 1, 0), herd(1, 5, 11), api.OK},
		{"one way again without the other one", round, herd(0, 2, 8), list(0, 0), null, api.ErrFalse},
		{"ways that come again", pastures(), herd(0, 5, 4), list(0, 2, 3, 2, 3, 2, 4), herd(3, 21, 5), api.OK},
	} {
		got, e := passage.Follow(x.n, x.h, x.route)
		if got != x.want || e != x.e {
			t.Error(x.what, got, e)
		}
	}
}

// P9.1: Follow tells of any lists of ways what the terms say, word by word.
func TestFollowAnyRoutes(t *testing.T) {
	r := rand.New(rand.NewSource(3))
	var are [2]int
	for range 30000 {
		s := anySeason(r)
		n := anyNet(r, s, 6, 24, 3)
		h := anyHerd(r, n, s)
		route := anyRoute(r, n, h)
		want, is := followed(n, h, route)
		got, e := passage.Follow(n, h, route)
		if is && (got != want || e != api.OK) || !is && (got != (passage.Herd{}) || e != api.ErrFalse) {
			t.Error(n, h, route, got, e)
		}
		are[count(is)] += count(len(route) > 1)
	}
	if min(are[0], are[1]) < 2000 {
		t.Error("too few routes of some kind were tried:", are)
	}
}

// dayCase has the earliest days of a herd at all posts.
type dayCase struct {
	what string
	n    passage.Net
	h    passage.Herd
	days []int
}

// sent returns the earliest days of a herd, and reports routes that do not lead there on these days, and calendars that
// do not prove them.
func sent(t *testing.T, n passage.Net, h passage.Herd) []int {
	t.Helper()
	days, e := passage.Earliest(n, h)
	calendar, f := passage.Calendar(n, h)
	if e != api.OK || f != api.OK || len(days) != n.Posts || !holds(n, h, calendar) {
		t.Fatal(n, h, days, calendar, e, f)
	}
	for post, day := range days {
		route, e := passage.Route(n, h, post)
		proved, f := passage.Proves(n, h, calendar, post)
		if day == none {
			if len(route) > 0 || e != api.ErrNone || proved != never || f != api.OK {
				t.Error("not proved that nothing leads there:", n, h, post, route, proved, e, f)
			}
			continue
		}
		there, is := followed(n, h, route)
		if e != api.OK || !is || there.Post != post || there.Day != day {
			t.Error("no route to there on that day:", n, h, post, route, there, e)
		}
		if proved != day || f != api.OK || slices.Min(calendar[post]) != day {
			t.Error("the day is not proved:", n, h, post, proved, f, calendar[post])
		}
	}
	return days
}

// expectDays reports earliest days that are other ones.
func expectDays(t *testing.T, cases []dayCase) {
	t.Helper()
	for _, x := range cases {
		if days := sent(t, x.n, x.h); !slices.Equal(days, x.days) || !slices.Equal(seen(x.n, x.h).days(x.n), x.days) {
			t.Error(x.what, days)
		}
	}
}

// P9.2, P9.3: the examples, gates that are not open yet or not any more, and the last day of all.
func TestDays(t *testing.T) {
	gates := net(4, way(0, 1, 1, 0, 0, 0, 20, 40), way(0, 2, 1, 0, 0, 0, 0, 10), way(2, 3, 1, 0, 0, 0, 5, 12))
	last := net(4, way(0, 1, 10, 0, 0, 0, 990, 1000), way(0, 2, 11, 0, 0, 0, 990, 1000), way(1, 3, 0, 0, 0, 0, 0, 1000))
	expectDays(t, []dayCase{
		{"example 2", pastures(), herd(0, 5, 0), list(5, 7, 8, 17)},
		{"example 2, with the paper", pastures(), herd(0, 5, 1), list(5, 7, 8, 17)},
		{"later with the paper, both ways as early", pastures(), herd(0, 11, 1), list(11, 13, 14, 23)},
		{"a day later still, through the gate", pastures(), herd(0, 12, 1), list(12, 14, 15, 23)},
		{"a day later still, by the paper of the customs post", pastures(), herd(0, 12, 0), list(12, 14, 15, 23)},
		{"on the last day of the gate", pastures(), herd(0, 36, 0), list(36, 38, 39, 43)},
		{"a day too late for the gate", pastures(), herd(0, 37, 0), list(37, 39, 40, 49)},
		{"a day too late for the gate but for the paper", pastures(), herd(0, 38, 1), list(38, 40, 41, 43)},
		{"example 3, day 60", pastures(), herd(0, 60, 0), list(60, 62, 63, 72)},
		{"example 3, day 95", pastures(), herd(0, 95, 0), list(95, 97, 98, 107)},
		{"on the last day of the customs post", pastures(), herd(0, 97, 0), list(97, 99, 100, 109)},
		{"a day too late for the last way", pastures(), herd(0, 98, 0), list(98, 100, 101, none)},
		{"example 3, day 99", pastures(), herd(0, 99, 0), list(99, 101, none, none)},
		{"too late for all", pastures(), herd(0, 101, 15), list(101, none, none, none)},
		{"where it stays", pastures(), herd(3, 0, 0), list(none, none, none, 0)},
		{"from the customs post", pastures(), herd(2, 50, 0), list(none, 51, 50, 59)},
		{"one post, on the last day", net(1), herd(0, 1000, 0), list(1000)},
		{"posts that nothing leads to", net(10, path(0, 9, 7), path(3, 4, 1)), herd(0, 3, 0), list(3, none, none, none, none, none, none, none, none, 10)},
		{"one gate is not open yet, another one still is", gates, herd(0, 3, 0), list(3, 21, 4, 6)},
		{"on the last day of one gate", gates, herd(0, 10, 0), list(10, 21, 11, 12)},
		{"a day too late for one gate", gates, herd(0, 11, 0), list(11, 21, none, none)},
		{"on the last day of the other gate", gates, herd(0, 40, 0), list(40, 41, none, none)},
		{"a day too late for both gates", gates, herd(0, 41, 0), list(41, none, none, none)},
		{"just to the last day", last, herd(0, 3, 0), list(3, 1000, none, 1000)},
		{"just to the last day, at the last moment", last, herd(0, 990, 0), list(990, 1000, none, 1000)},
		{"to the day behind the last one", last, herd(0, 991, 0), list(991, none, none, none)},
	})
}

// P9.2, P9.3: ways round for papers, ways that take no day, rounds, and ways side by side.
func TestDaysWithPapers(t *testing.T) {
	round := net(4, way(0, 1, 4, 0, 0, 1, 0, 1000), way(1, 0, 4, 0, 0, 0, 0, 1000), way(0, 2, 1, 0, 0, 0, 0, 1000), way(2, 3, 1, 0, 1, 0, 0, 1000))
	slow := net(4, slices.Concat(round.Ways, []passage.Way{path(2, 3, 8)})...)
	quick := net(4, slices.Concat(round.Ways, []passage.Way{path(2, 3, 7)})...)
	// papers for which a herd goes round three times, over ways that take no day
	rounds := net(4, way(0, 1, 0, 0, 0, 1, 0, 9), way(1, 0, 0, 0, 0, 0, 0, 9), way(0, 2, 0, 0, 1, 2, 0, 9), way(2, 0, 0, 0, 0, 0, 0, 9),
		way(0, 1, 0, 0, 2, 4, 0, 9), way(1, 2, 0, 0, 4, 8, 0, 9), way(0, 3, 0, 0, 15, 0, 0, 9))
	beside := net(2, path(0, 1, 5), way(0, 1, 1, 0, 0, 0, 8, 9), path(0, 1, 3))
	expectDays(t, []dayCase{
		{"a way round for a paper", round, herd(0, 0, 0), list(0, 4, 1, 10)},
		{"no way round with the paper", round, herd(0, 0, 1), list(0, 4, 1, 2)},
		{"no way round with another paper", round, herd(0, 0, 2), list(0, 4, 1, 10)},
		{"a way round as long as a way without a paper", slow, herd(0, 0, 8), list(0, 4, 1, 9)},
		{"a way round that is not worth it", quick, herd(0, 0, 8), list(0, 4, 1, 8)},
		{"no way back with the paper", round, herd(2, 0, 0), list(none, none, 0, none)},
		{"rounds that take no day", rounds, herd(0, 3, 0), list(3, 3, 3, 3)},
		{"rounds that take no day, on the last day", rounds, herd(0, 9, 0), list(9, 9, 9, 9)},
		{"rounds that take no day, a day too late", rounds, herd(0, 10, 0), list(10, none, none, none)},
		{"from within the rounds", rounds, herd(2, 3, 0), list(3, 3, 3, 3)},
		{"the quickest of several ways", beside, herd(0, 0, 0), list(0, 3)},
		{"the one that is open", beside, herd(0, 7, 0), list(7, 9)},
		{"the quickest one as long as it is open", beside, herd(0, 10, 0), list(10, 13)},
	})
	route, e := passage.Route(rounds, herd(0, 3, 0), 3)
	again := slices.Compact(slices.Sorted(slices.Values(route)))
	if len(again) == len(route) || e != api.OK {
		t.Error("a route of rounds without a way that comes again:", route, e)
	}
	route, e = passage.Route(round, herd(2, 7, 3), 2)
	if len(route) > 0 || e != api.OK {
		t.Error("a route to where the herd is:", route, e)
	}
}

// P9.2, P9.3: of any herds the earliest days are those of a herd that goes and waits day by day.
func TestEarliestOfAnyHerds(t *testing.T) {
	r := rand.New(rand.NewSource(4))
	var known, all int
	for range 2500 {
		s := anySeason(r)
		n := anyNet(r, s, 10, 24, 3)
		h := anyHerd(r, n, s)
		days := sent(t, n, h)
		if want := seen(n, h).days(n); !slices.Equal(days, want) {
			t.Error(n, h, days, want)
		}
		for _, day := range days {
			known, all = known+count(day != none), all+1
		}
	}
	if min(known, all-known) < 3000 {
		t.Error("too few posts of some kind were tried:", known, all)
	}
}

// P9.3: which calendars hold, and what they prove.
func TestProves(t *testing.T) {
	h := herd(0, 5, 0)
	with := func(post, papers, day int) [][]int {
		calendar := rows(5, 7, 8, 17)
		calendar[post][papers] = day
		return calendar
	}
	// the numbers that the herd of example 2 has, and never for all other places
	bare := rows(never, never, never, never)
	bare[0][0], bare[1][0], bare[1][1], bare[2][1], bare[3][1] = 5, 7, 9, 8, 17
	early := copyRows(bare)
	early[1][1] = 8
	late := copyRows(bare)
	late[1][1] = 10
	for _, x := range []struct {
		what     string
		h        passage.Herd
		calendar [][]int
		to, want int // -1 if it does not hold
	}{
		{"the same days whatever the papers", h, rows(5, 7, 8, 17), 3, 17},
		{"days that are earlier", h, rows(0, 0, 0, 0), 3, 0},
		{"days of an earlier herd", herd(0, 6, 0), rows(5, 7, 8, 17), 3, 17},
		{"days of a herd with more papers", herd(0, 5, 15), rows(5, 7, 8, 17), 2, 8},
		{"days of a herd elsewhere", herd(1, 7, 2), rows(5, 7, 8, 17), 3, 17},
		{"only days on which the herd is there", h, bare, 3, 17},
		{"the least number of a row", h, bare, 1, 7},
		{"one number that is earlier", h, early, 3, 17},
		{"one number that is later", h, late, 3, -1},
		{"later than the herd is", h, rows(6, 7, 8, 17), 3, -1},
		{"one place later than the herd is", h, with(0, 0, 6), 3, -1},
		{"another place is later", h, with(0, 1, 1001), 0, 5},
		{"later than a way leads there", h, rows(5, 7, 8, 18), 3, -1},
		{"a place from which nothing leads on", h, with(3, 15, 18), 3, -1},
		{"later there without the paper that all have", h, with(3, 0, 1001), 3, -1},
		{"later at the customs post without its paper", h, with(2, 0, 1001), 2, 8},
		{"earlier at the customs post without its paper", h, with(2, 0, 7), 3, -1},
		{"earlier at the last post", h, with(3, 9, 2), 3, 2},
		{"never where a way leads", h, rows(5, 7, 1001, 17), 3, -1},
		{"never where no way leads any more", herd(0, 101, 0), rows(101, 1001, 1001, 1001), 2, 1001},
		{"never, a day too early", herd(0, 100, 0), rows(100, 1001, 1001, 1001), 2, -1},
		{"never for all", h, rows(1001, 1001, 1001, 1001), 3, -1},
		{"never for all but the herd's own post", herd(3, 1000, 0), rows(1001, 1001, 1001, 1000), 0, 1001},
		{"on the last day no gate is open", herd(3, 1000, 0), rows(1000, 1000, 1000, 1000), 1, 1000},
	} {
		is := holds(pastures(), x.h, x.calendar)
		day, e := passage.Proves(pastures(), x.h, x.calendar, x.to)
		if x.want < 0 && (day != 0 || e != api.ErrFalse || is) || x.want >= 0 && (day != x.want || e != api.OK || !is) {
			t.Error(x.what, day, e, is)
		}
	}
}

// P9.3: on the day that says never no herd can take a way, though one is open on the last day, and takes none.
func TestProvesNever(t *testing.T) {
	open := net(2, path(0, 1, 0))
	for _, x := range []struct {
		calendar [][]int
		want     int
		e        api.Errno
	}{
		{rows(1000, 1000), 1000, api.OK},
		{rows(1000, 1001), 0, api.ErrFalse},
		{rows(1001, 1000), 0, api.ErrFalse},
		{[][]int{append(row(1001)[1:], 1000), row(1001)}, 0, api.ErrFalse},
		{[][]int{append(list(1000), row(1001)[1:]...), append(list(1000), row(1001)[1:]...)}, 1000, api.OK},
	} {
		if day, e := passage.Proves(open, herd(0, 1000, 0), x.calendar, 1); day != x.want || e != x.e {
			t.Error(x, day, e)
		}
	}
	if day, e := passage.Proves(open, herd(1, 1000, 0), rows(1001, 1000), 0); day != 1001 || e != api.OK {
		t.Error("a post that nothing leads to:", day, e)
	}
}

// P9.3: Proves tells of any calendars whether they hold, and what they prove: of those that are returned, with some
// numbers that are earlier or later, one alone among them.
func TestProvesOfAnyCalendars(t *testing.T) {
	r := rand.New(rand.NewSource(5))
	var are, alone [2]int
	for range 20000 {
		s := anySeason(r)
		n := anyNet(r, s, 6, 24, 3)
		h := anyHerd(r, n, s)
		calendar, _ := passage.Calendar(n, h)
		changes := r.Intn(4)
		for range changes {
			day := &calendar[r.Intn(n.Posts)][list(h.Papers, r.Intn(16))[r.Intn(2)]]
			*day = max(0, min(1001, list(*day-1, *day+1, *day-r.Intn(s.long+1), r.Intn(1002))[r.Intn(4)]))
		}
		to := r.Intn(n.Posts)
		is := holds(n, h, calendar)
		day, e := passage.Proves(n, h, calendar, to)
		if is && (day != slices.Min(calendar[to]) || e != api.OK) || !is && (day != 0 || e != api.ErrFalse) {
			t.Error(n, h, calendar, to, day, e)
		}
		are[count(is)]++
		alone[count(is)] += count(changes == 1)
	}
	if min(are[0], are[1], alone[0], alone[1]) < 500 {
		t.Error("too few calendars of some kind were tried:", are, alone)
	}
}

// P9.3: a calendar that is returned holds, and if one number of it is later, at a place to which the herd comes, it does
// not hold any more.
func TestOneNumberLater(t *testing.T) {
	r := rand.New(rand.NewSource(6))
	tried := 0
	for range 400 {
		s := anySeason(r)
		n := anyNet(r, s, 6, 24, 3)
		h := anyHerd(r, n, s)
		calendar, _ := passage.Calendar(n, h)
		for post, first := range seen(n, h) {
			for papers, day := range first {
				if day == never {
					continue
				}
				tried++
				later := copyRows(calendar)
				later[post][papers] = day + 1
				if proved, e := passage.Proves(n, h, later, post); proved != 0 || e != api.ErrFalse {
					t.Error("a number that is too late:", n, h, post, papers, proved, e)
				}
			}
		}
	}
	if tried < 1000 {
		t.Error("too few numbers were tried:", tried)
	}
}

// P9.4: which herds of a list have no route.
func TestBarred(t *testing.T) {
	for _, x := range []struct {
		what  string
		herds []passage.Herd
		to    []int
		want  []int
	}{
		{"no herds", nil, nil, nil},
		{"example 3", []passage.Herd{herd(0, 60, 0), herd(0, 95, 0), herd(0, 99, 0), herd(0, 99, 0)}, list(3, 3, 1, 3), list(3)},
		{"the first and the last one", []passage.Herd{herd(0, 99, 0), herd(0, 60, 0), herd(3, 0, 0), herd(3, 0, 0), herd(1, 0, 0)}, list(3, 3, 2, 3, 0), list(0, 2, 4)},
		{"all of them", []passage.Herd{herd(1, 0, 0), herd(2, 0, 15), herd(3, 0, 0)}, list(0, 0, 0), list(0, 1, 2)},
		{"all of 12", slices.Repeat([]passage.Herd{herd(3, 0, 0)}, 12), make([]int, 12), list(0, 1, 2, 3, 4, 5, 6, 7, 8, 9, 10, 11)},
		{"each is where it wants to be", []passage.Herd{herd(0, 1000, 0), herd(3, 1000, 0)}, list(0, 3), nil},
		{"one paper more or less", []passage.Herd{herd(1, 40, 1), herd(1, 40, 0), herd(1, 100, 1), herd(1, 101, 1)}, list(3, 3, 2, 2), list(3)},
		{"one herd twice", []passage.Herd{herd(0, 99, 0), herd(0, 99, 0)}, list(2, 2), list(0, 1)},
	} {
		if got, e := passage.Barred(pastures(), x.herds, x.to); !slices.Equal(got, x.want) || e != api.OK {
			t.Error(x.what, got, e)
		}
	}
}

// P9.4: of any herds those are barred that are never there, though they wait.
func TestBarredOfAnyHerds(t *testing.T) {
	r := rand.New(rand.NewSource(7))
	var are [2]int
	for range 400 {
		s := anySeason(r)
		n := anyNet(r, s, 8, 24, 3)
		var herds []passage.Herd
		var to, want []int
		for number := range r.Intn(13) {
			herds, to = append(herds, anyHerd(r, n, s)), append(to, r.Intn(n.Posts))
			is := seen(n, herds[number]).days(n)[to[number]] == none
			if is {
				want = append(want, number)
			}
			are[count(is)]++
		}
		if got, e := passage.Barred(n, herds, to); !slices.Equal(got, want) || e != api.OK {
			t.Error(n, herds, to, got, want, e)
		}
	}
	if min(are[0], are[1]) < 500 {
		t.Error("too few herds of some kind were tried:", are)
	}
}
