package passage_test

import (
	"math"
	"slices"
	"testing"

	"limitrophe/api"
	"limitrophe/passage"
)

// changed returns the net of example 1 but for a change.
func changed(change func(n *passage.Net)) passage.Net {
	n := pastures()
	change(&n)
	return n
}

// changedWay returns it but for a change of its second way.
func changedWay(change func(w *passage.Way)) passage.Net {
	return changed(func(n *passage.Net) { change(&n.Ways[1]) })
}

// netCase is a net, and the error that it has.
type netCase struct {
	what string
	n    passage.Net
	e    api.Errno
}

// expectOfNets reports functions that answer another error than that of a net.
func expectOfNets(t *testing.T, cases []netCase) {
	t.Helper()
	for _, x := range cases {
		a := ask(arguments{n: x.n, h: herd(-1, -1, -1), l: make([]passage.Herd, 13)})
		var want [functions]api.Errno
		for number := range want {
			want[number] = x.e
		}
		if x.e == api.OK {
			want = [functions]api.Errno{ofFollow: api.ErrArg, ofEarliest: api.ErrArg, ofRoute: api.ErrArg, ofCalendar: api.ErrArg,
				ofProves: api.ErrArg, ofBarred: api.ErrCount, ofDrive: api.ErrCount, ofBrings: api.ErrCount, ofCut: api.ErrCount,
				ofBars: api.ErrCount, ofNarrow: api.ErrCount}
		}
		if a.errors != want || a.besidesErrors() {
			t.Error(x.what, a)
		}
	}
}

// P9.1: which nets are valid, up to each limit and one beyond it. All functions say so.
func TestErrorsOfNets(t *testing.T) {
	expectOfNets(t, []netCase{
		{"example 1", pastures(), api.OK},
		{"one post", net(1), api.OK},
		{"10 posts", net(10), api.OK},
		{"no ways", changed(func(n *passage.Net) { n.Ways = nil }), api.OK},
		{"24 ways", net(2, slices.Repeat([]passage.Way{path(1, 0, 0)}, 24)...), api.OK},
		{"to the last post, and from it", net(10, path(9, 0, 1), path(0, 9, 1)), api.OK},
		{"all that a way can be at most", net(2, way(0, 1, 1000, 1000, 15, 15, 1000, 1000)), api.OK},
		{"all that it can be at least", net(2, way(1, 0, 0, 0, 0, 0, 0, 0)), api.OK},
		{"open on all days", net(2, way(1, 0, 1, 1, 1, 1, 0, 1000)), api.OK},
		{"nothing", passage.Net{}, api.ErrCount},
		{"no posts", changed(func(n *passage.Net) { n.Posts = 0 }), api.ErrCount},
		{"fewer posts than none", changed(func(n *passage.Net) { n.Posts = -1 }), api.ErrCount},
		{"11 posts", changed(func(n *passage.Net) { n.Posts = 11 }), api.ErrCount},
		{"the fewest posts there are", changed(func(n *passage.Net) { n.Posts = math.MinInt }), api.ErrCount},
		{"the most posts there are", changed(func(n *passage.Net) { n.Posts = math.MaxInt }), api.ErrCount},
		{"25 ways", net(2, slices.Repeat([]passage.Way{path(1, 0, 0)}, 25)...), api.ErrCount},
		{"25 ways that are none", net(2, make([]passage.Way, 25)...), api.ErrCount},
		{"no posts, and a way from one", net(0, path(0, 1, 0)), api.ErrCount},
		{"from a post beyond the last one", changedWay(func(w *passage.Way) { w.From = 4 }), api.ErrArg},
		{"from a post below the first one", changedWay(func(w *passage.Way) { w.From = -1 }), api.ErrArg},
		{"to a post beyond the last one", changedWay(func(w *passage.Way) { w.To = 4 }), api.ErrArg},
		{"to a post below the first one", changedWay(func(w *passage.Way) { w.To = -1 }), api.ErrArg},
		{"to the post from which it comes", changedWay(func(w *passage.Way) { w.To = w.From }), api.ErrArg},
		{"from and to no post", changedWay(func(w *passage.Way) { w.From, w.To = 4, 5 }), api.ErrArg},
		{"to the greatest post there is", changedWay(func(w *passage.Way) { w.To = math.MaxInt }), api.ErrArg},
		{"from the least post there is", changedWay(func(w *passage.Way) { w.From = math.MinInt }), api.ErrArg},
		{"a way of one post", net(1, path(0, 0, 0)), api.ErrArg},
		{"to no post, with days that are not allowed", changedWay(func(w *passage.Way) { w.To, w.Days = 4, -1 }), api.ErrArg},
		{"to no post, open on days that are not allowed", changedWay(func(w *passage.Way) { w.To, w.Open.Lo = 4, -1 }), api.ErrArg},
		{"to no post, behind a way that is not allowed", changed(func(n *passage.Net) { n.Ways[0].Days, n.Ways[1].To = -1, 4 }), api.ErrValue},
		{"to no post, ahead of a way that is not allowed", changed(func(n *passage.Net) { n.Ways[1].Days, n.Ways[0].To = -1, 4 }), api.ErrArg},
		{"the last way to no post", changed(func(n *passage.Net) { n.Ways[4].To = 4 }), api.ErrArg},
	})
}

// P9.1: what a way can be, and what it cannot.
func TestValuesOfWays(t *testing.T) {
	open := func(lo, hi int) passage.Net {
		return changedWay(func(w *passage.Way) { w.Open = api.Span{Lo: lo, Hi: hi} })
	}
	expectOfNets(t, []netCase{
		{"fewer days than none", changedWay(func(w *passage.Way) { w.Days = -1 }), api.ErrValue},
		{"1001 days", changedWay(func(w *passage.Way) { w.Days = 1001 }), api.ErrValue},
		{"the most days there are", changedWay(func(w *passage.Way) { w.Days = math.MaxInt }), api.ErrValue},
		{"the fewest days there are", changedWay(func(w *passage.Way) { w.Days = math.MinInt }), api.ErrValue},
		{"fewer heads than none", changedWay(func(w *passage.Way) { w.Heads = -1 }), api.ErrValue},
		{"1001 heads", changedWay(func(w *passage.Way) { w.Heads = 1001 }), api.ErrValue},
		{"the most heads there are", changedWay(func(w *passage.Way) { w.Heads = math.MaxInt }), api.ErrValue},
		{"it needs a fifth paper", changedWay(func(w *passage.Way) { w.Needs = 16 }), api.ErrValue},
		{"it needs less than nothing", changedWay(func(w *passage.Way) { w.Needs = -1 }), api.ErrValue},
		{"it needs what no set is", changedWay(func(w *passage.Way) { w.Needs = math.MinInt }), api.ErrValue},
		{"it gives a fifth paper", changedWay(func(w *passage.Way) { w.Gives = 16 }), api.ErrValue},
		{"it gives less than nothing", changedWay(func(w *passage.Way) { w.Gives = -1 }), api.ErrValue},
		{"it gives what no set is", changedWay(func(w *passage.Way) { w.Gives = math.MaxInt }), api.ErrValue},
		{"open for a day", open(7, 7), api.OK},
		{"open on the first day", open(0, 0), api.OK},
		{"open on the last day", open(1000, 1000), api.OK},
		{"closed before it opens", open(8, 7), api.ErrValue},
		{"open ahead of the first day", open(-1, 7), api.ErrValue},
		{"open ahead of the first day alone", open(-1, -1), api.ErrValue},
		{"open behind the last day", open(7, 1001), api.ErrValue},
		{"open behind the last day alone", open(1001, 1001), api.ErrValue},
		{"open on all days there are", open(math.MinInt, math.MaxInt), api.ErrValue},
		{"open on none of them", open(math.MaxInt, math.MinInt), api.ErrValue},
		{"the last way with 1001 heads", changed(func(n *passage.Net) { n.Ways[4].Heads = 1001 }), api.ErrValue},
	})
}

// P9.1 to P9.3: which herds are allowed, up to each limit and one beyond it. All functions of a herd say so.
func TestErrorsOfHerds(t *testing.T) {
	for _, x := range []struct {
		what string
		h    passage.Herd
		e    api.Errno
	}{
		{"at the first post, on the first day, without papers", herd(0, 0, 0), api.OK},
		{"at the last post, on the last day, with all papers", herd(3, 1000, 15), api.OK},
		{"beyond the last post", herd(4, 0, 0), api.ErrArg},
		{"below the first post", herd(-1, 0, 0), api.ErrArg},
		{"at the greatest post there is", herd(math.MaxInt, 0, 0), api.ErrArg},
		{"at the least post there is", herd(math.MinInt, 0, 0), api.ErrArg},
		{"ahead of the first day", herd(0, -1, 0), api.ErrValue},
		{"behind the last day", herd(0, 1001, 0), api.ErrValue},
		{"on the last day there is", herd(0, math.MaxInt, 0), api.ErrValue},
		{"on the first day there is", herd(0, math.MinInt, 0), api.ErrValue},
		{"with a fifth paper", herd(0, 0, 16), api.ErrValue},
		{"with fewer papers than none", herd(0, 0, -1), api.ErrValue},
		{"with what no set is", herd(0, 0, math.MinInt), api.ErrValue},
		{"at no post, behind the last day", herd(4, 1001, 0), api.ErrArg},
		{"at no post, with a fifth paper", herd(-1, 0, 16), api.ErrArg},
	} {
		good := ask(arguments{n: pastures(), h: x.h, to: 0, calendar: rows(0, 0, 0, 0), l: []passage.Herd{x.h}, tos: list(x.h.Post)})
		bad := ask(arguments{n: pastures(), h: x.h, route: list(-1), to: -1, l: []passage.Herd{x.h}, tos: list(-1)})
		of := []int{ofFollow, ofEarliest, ofCalendar, ofProves, ofBarred}
		for _, number := range of {
			expect(t, x.what, good.errors[number], x.e)
			if x.e != api.OK {
				expect(t, x.what, bad.errors[number], x.e)
			}
		}
		if x.e != api.OK {
			expect(t, x.what, good.errors[ofRoute], x.e)
			expect(t, x.what, bad.errors[ofRoute], x.e)
		}
		if good.besidesErrors() || bad.besidesErrors() {
			t.Error(x.what, good, bad)
		}
	}
}

// P9.1, P9.2: routes with ways that there are not, posts that there are not, and what comes first.
func TestErrorsOfRoutes(t *testing.T) {
	for _, x := range []struct {
		what  string
		route []int
		e     api.Errno
	}{
		{"no way", nil, api.OK},
		{"the first way", list(0), api.OK},
		{"the last way of a route", list(0, 2, 4), api.OK},
		{"a way that leads from elsewhere", list(4), api.ErrFalse},
		{"a way that cannot be taken, behind one that can", list(0, 1), api.ErrFalse},
		{"a way beyond the last one", list(5), api.ErrArg},
		{"a way below the first one", list(-1), api.ErrArg},
		{"a way beyond the last one, behind those that there are", list(0, 2, 5), api.ErrArg},
		{"a way beyond the last one, behind one that cannot be taken", list(0, 1, 5), api.ErrArg},
		{"a way beyond the last one, ahead of one that cannot be taken", list(-1, 1), api.ErrArg},
		{"the greatest way there is", list(math.MaxInt), api.ErrArg},
		{"the least way there is", list(0, math.MinInt), api.ErrArg},
	} {
		h, e := passage.Follow(pastures(), herd(0, 5, 0), x.route)
		expect(t, x.what, e, x.e)
		if e != api.OK && h != (passage.Herd{}) {
			t.Error(x.what, h)
		}
	}
	_, e := passage.Follow(net(2), herd(0, 0, 0), list(0))
	expect(t, "the first of no ways", e, api.ErrArg)
	for _, x := range []struct {
		what string
		h    passage.Herd
		to   int
		e    api.Errno
	}{
		{"to the first post", herd(0, 5, 0), 0, api.OK},
		{"to the last post", herd(0, 5, 0), 3, api.OK},
		{"where nothing leads to", herd(1, 5, 0), 0, api.ErrNone},
		{"where it comes too late", herd(0, 99, 0), 3, api.ErrNone},
		{"beyond the last post", herd(0, 5, 0), 4, api.ErrArg},
		{"below the first post", herd(0, 5, 0), -1, api.ErrArg},
		{"to the greatest post there is", herd(0, 5, 0), math.MaxInt, api.ErrArg},
		{"to the least post there is", herd(0, 5, 0), math.MinInt, api.ErrArg},
	} {
		route, e := passage.Route(pastures(), x.h, x.to)
		expect(t, x.what, e, x.e)
		if e != api.OK && len(route) > 0 {
			t.Error(x.what, route)
		}
	}
}

// P9.3: which calendars can be asked about, in the order of errors.
func TestErrorsOfCalendars(t *testing.T) {
	with := func(post, papers, day int) [][]int {
		calendar := rows(5, 7, 8, 17)
		calendar[post][papers] = day
		return calendar
	}
	short := func(post, many int) [][]int {
		calendar := rows(5, 7, 8, 1002)
		calendar[post] = make([]int, many)
		return calendar
	}
	for _, x := range []struct {
		what     string
		calendar [][]int
		to       int
		e        api.Errno
	}{
		{"a calendar", rows(5, 7, 8, 17), 3, api.OK},
		{"the least numbers", rows(0, 0, 0, 0), 0, api.OK},
		{"the greatest number", with(0, 15, 1001), 3, api.OK},
		{"no rows", nil, 4, api.ErrCount},
		{"too few rows", rows(5, 7, 8), 4, api.ErrCount},
		{"too many rows", rows(5, 7, 8, 17, 17), 4, api.ErrCount},
		{"too few numbers in the first row", short(0, 15), 4, api.ErrCount},
		{"too many numbers in a row", short(2, 17), 4, api.ErrCount},
		{"no numbers in the last row", short(3, 0), 4, api.ErrCount},
		{"a number beyond the last one", with(2, 15, 1002), 4, api.ErrValue},
		{"a number below the first one", with(0, 0, -1), 4, api.ErrValue},
		{"the greatest number there is", with(3, 3, math.MaxInt), 4, api.ErrValue},
		{"the least number there is", with(1, 7, math.MinInt), 4, api.ErrValue},
		{"a number below the first one, and it does not hold", rows(6, 7, 8, -1), 4, api.ErrValue},
		{"it does not hold", rows(6, 7, 8, 17), 4, api.ErrFalse},
		{"it does not hold, for a post", rows(6, 7, 8, 17), 3, api.ErrFalse},
		{"beyond the last post", rows(5, 7, 8, 17), 4, api.ErrArg},
		{"below the first post", rows(5, 7, 8, 17), -1, api.ErrArg},
		{"the greatest post there is", rows(5, 7, 8, 17), math.MaxInt, api.ErrArg},
		{"the least post there is", rows(5, 7, 8, 17), math.MinInt, api.ErrArg},
	} {
		day, e := passage.Proves(pastures(), herd(0, 5, 0), x.calendar, x.to)
		expect(t, x.what, e, x.e)
		if e != api.OK && day != 0 {
			t.Error(x.what, day)
		}
	}
}

// P9.4: how many herds can be asked about, and which, in the order of errors.
func TestErrorsOfManyHerds(t *testing.T) {
	good := func(many int) []passage.Herd { return slices.Repeat([]passage.Herd{herd(0, 0, 0)}, many) }
	behind := func(l ...passage.Herd) []passage.Herd { return append(good(2), l...) }
	for _, x := range []struct {
		what string
		l    []passage.Herd
		to   []int
		e    api.Errno
	}{
		{"no herds", nil, nil, api.OK},
		{"12 herds", good(12), make([]int, 12), api.OK},
		{"13 herds", good(13), make([]int, 13), api.ErrCount},
		{"13 herds that are none", slices.Repeat([]passage.Herd{herd(-1, 0, 0)}, 13), make([]int, 13), api.ErrCount},
		{"a herd without a post", good(3), make([]int, 2), api.ErrCount},
		{"a post without a herd", good(2), make([]int, 3), api.ErrCount},
		{"a post without herds", nil, list(9), api.ErrCount},
		{"a herd that is none, and no post for it", behind(herd(-1, 0, 0)), list(0, 0), api.ErrCount},
		{"a herd at no post", behind(herd(4, 0, 0)), list(9, 0, 0), api.ErrArg},
		{"a herd on no day", behind(herd(0, 1001, 0)), list(9, 0, 0), api.ErrValue},
		{"a herd with no papers that there are", behind(herd(0, 0, 16)), list(9, 0, 0), api.ErrValue},
		{"one on no day, then one at no post", behind(herd(0, -1, 0), herd(-1, 0, 0)), list(9, 0, 0, 0), api.ErrValue},
		{"one at no post, then one on no day", behind(herd(-1, 0, 0), herd(0, -1, 0)), list(9, 0, 0, 0), api.ErrArg},
		{"to beyond the last post", good(3), list(0, 4, 0), api.ErrArg},
		{"to below the first post", good(3), list(0, 0, -1), api.ErrArg},
		{"to the greatest post there is", good(1), list(math.MaxInt), api.ErrArg},
	} {
		barred, e := passage.Barred(pastures(), x.l, x.to)
		expect(t, x.what, e, x.e)
		if len(barred) > 0 {
			t.Error(x.what, barred)
		}
	}
}

// P9.5, P9.6: which posts are pastures, in the order of errors. All functions of pastures say so.
func TestErrorsOfPastures(t *testing.T) {
	for _, x := range []struct {
		what     string
		from, to []int
		e        api.Errno
	}{
		{"a source and a goal", list(0), list(3), api.OK},
		{"all posts", list(0, 2), list(1, 3), api.OK},
		{"a source beyond the last post", list(4), list(3), api.ErrArg},
		{"a source below the first post", list(-1, 0), list(3), api.ErrArg},
		{"a goal beyond the last post", list(0), list(3, 4), api.ErrArg},
		{"a goal below the first post", list(0), list(-1), api.ErrArg},
		{"the greatest source there is", list(math.MaxInt), list(3), api.ErrArg},
		{"the least goal there is", list(0), list(math.MinInt), api.ErrArg},
		{"no sources, and no such goal", nil, list(4), api.ErrArg},
		{"no such source, and no goals", list(4), nil, api.ErrArg},
		{"no such source, and not in order", list(4, 0), list(3), api.ErrArg},
		{"no such goal, and no order, and a post that is both", list(1, 0), list(1, 0, 9), api.ErrArg},
		{"no sources", nil, list(3), api.ErrCount},
		{"no goals", list(0), nil, api.ErrCount},
		{"no pastures", nil, nil, api.ErrCount},
		{"no sources, and goals that are not in order", nil, list(3, 2), api.ErrCount},
		{"sources that are not in order, and no goals", list(1, 0), nil, api.ErrCount},
		{"sources that are not in order", list(1, 0), list(3), api.ErrOrder},
		{"a source twice", list(0, 0), list(3), api.ErrOrder},
		{"goals that are not in order", list(0), list(1, 3, 2), api.ErrOrder},
		{"a goal twice", list(0), list(2, 3, 3), api.ErrOrder},
		{"sources that are not in order, and a post that is both", list(1, 0), list(1), api.ErrOrder},
		{"a goal twice, and a post that is both", list(0, 3), list(3, 3), api.ErrOrder},
		{"a post that is both", list(0, 1), list(1, 2), api.ErrTwice},
		{"the only post is both", list(2), list(2), api.ErrTwice},
		{"the last one is both", list(0, 3), list(1, 3), api.ErrTwice},
	} {
		good := ask(arguments{n: pastures(), from: x.from, goals: x.to, heads: make([]int, 5), posts: x.from})
		bad := ask(arguments{n: pastures(), from: x.from, goals: x.to, heads: list(-1), posts: list(-1)})
		if good.besidesErrors() || bad.besidesErrors() {
			t.Error(x.what, good, bad)
		}
		for number := ofDrive; number <= ofNarrow; number++ {
			expect(t, x.what, good.errors[number], x.e)
			if x.e != api.OK {
				expect(t, x.what, bad.errors[number], x.e)
			}
		}
	}
}

// P9.5: which numbers of heads are a drive, in the order of errors.
func TestErrorsOfDrives(t *testing.T) {
	for _, x := range []struct {
		what  string
		heads []int
		e     api.Errno
	}{
		{"as many as each way bears, round a round", list(0, 0, 40, 40, 0), api.OK},
		{"no heads", make([]int, 5), api.OK},
		{"no numbers", nil, api.ErrCount},
		{"a number too few", list(51, 0, 0, 0), api.ErrCount},
		{"a number too many", list(51, 0, 0, 0, 0, 0), api.ErrCount},
		{"one head too many", list(51, 0, 0, 0, 0), api.ErrValue},
		{"one head too many on the last way", list(1, 0, 0, 0, 11), api.ErrValue},
		{"fewer heads than none", list(1, 0, 0, -1, 0), api.ErrValue},
		{"the most heads there are", list(0, math.MaxInt, 0, 0, 0), api.ErrValue},
		{"the fewest heads there are", list(0, math.MinInt, 0, 0, 0), api.ErrValue},
		{"heads that stay at a post", list(1, 0, 0, 0, 0), api.ErrFalse},
		{"heads that come from nowhere", list(0, 0, 0, 0, 1), api.ErrFalse},
		{"heads that jump from post to post", list(1, 0, 0, 0, 1), api.ErrFalse},
	} {
		brings, e := passage.Brings(pastures(), list(0), list(3), x.heads)
		expect(t, x.what, e, x.e)
		if e != api.OK && brings != 0 {
			t.Error(x.what, brings)
		}
	}
}

// P9.6: which posts are a cut, in the order of errors.
func TestErrorsOfCuts(t *testing.T) {
	for _, x := range []struct {
		what  string
		posts []int
		e     api.Errno
	}{
		{"the sources", list(0, 2), api.OK},
		{"all but the goals", list(0, 1, 2, 4), api.OK},
		{"beyond the last post", list(0, 2, 5), api.ErrArg},
		{"below the first post", list(-1, 0, 2), api.ErrArg},
		{"the greatest post there is", list(2, 1, math.MaxInt), api.ErrArg},
		{"the least post there is", list(math.MinInt), api.ErrArg},
		{"not in order, and below the first post", list(2, 0, -1), api.ErrArg},
		{"not in order", list(2, 0), api.ErrOrder},
		{"a post twice", list(0, 1, 1, 2), api.ErrOrder},
		{"a goal twice", list(0, 2, 3, 3), api.ErrOrder},
		{"not in order, without a source", list(2, 1), api.ErrOrder},
		{"without posts", nil, api.ErrFalse},
		{"without the first source", list(1, 2), api.ErrFalse},
		{"without the last source", list(0, 1), api.ErrFalse},
		{"with a goal", list(0, 2, 3), api.ErrFalse},
		{"all posts", list(0, 1, 2, 3, 4), api.ErrFalse},
		{"the goals", list(3), api.ErrFalse},
	} {
		n := pastures()
		n.Posts = 5
		bars, e := passage.Bars(n, list(0, 2), list(3), x.posts)
		expect(t, x.what, e, x.e)
		if e != api.OK && bars != 0 {
			t.Error(x.what, bars)
		}
	}
}
