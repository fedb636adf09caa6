package strip_test

import (
	"math"
	"slices"
	"testing"

	"limitrophe/api"
	"limitrophe/strip"
)

func TestCheckTellsCounts(t *testing.T) {
	for _, x := range []struct {
		what string
		l    strip.Line
		e    api.Errno
	}{
		{"an open line without pillars", open(), api.ErrCount},
		{"an open line with one pillar", row(1), api.ErrCount},
		{"an open line with two", row(2), api.OK},
		{"an open line with 20", row(20), api.OK},
		{"an open line with 21", row(21), api.ErrCount},
		{"a closed line without pillars", closed(), api.ErrCount},
		{"a closed line with two pillars", ring(2), api.ErrCount},
		{"a closed line with three", ring(3), api.OK},
		{"a closed line with 20", ring(20), api.OK},
		{"a closed line with 21", ring(21), api.ErrCount},
	} {
		expect(t, x.what, strip.Check(x.l), x.e)
	}
}

func TestCheckTellsValues(t *testing.T) {
	const far = strip.Max
	for _, x := range []struct {
		what string
		b    strip.Box
		e    api.Errno
	}{
		{"all places", box(-far, far, -far, far), api.OK},
		{"one place in the west", stone(-far, -far), api.OK},
		{"one place in the east", stone(far, far), api.OK},
		{"too far west", box(-far-1, 0, 0, 0), api.ErrValue},
		{"too far east", box(0, far+1, 0, 0), api.ErrValue},
		{"too far south", box(0, 0, -far-1, 0), api.ErrValue},
		{"too far north", box(0, 0, 0, far+1), api.ErrValue},
		{"an X the wrong way round", box(1, 0, 0, 0), api.ErrValue},
		{"a Y the wrong way round", box(0, 0, 1, 0), api.ErrValue},
		{"all too far", box(far+1, far+2, 0, 0), api.ErrValue},
		{"the greatest numbers", box(math.MinInt, math.MaxInt, math.MinInt, math.MaxInt), api.ErrValue},
	} {
		for number := range 3 {
			l := flat()
			l.Pillars[number] = x.b
			expect(t, x.what, strip.Check(l), x.e)
		}
	}
}

func TestCheckTellsOrder(t *testing.T) {
	for _, x := range []struct {
		what string
		l    strip.Line
		e    api.Errno
	}{
		{"a pillar behind the next one", open(stone(0, 0), stone(1, 0)), api.OK},
		{"spans that meet", open(box(0, 2, 0, 0), box(2, 4, 9, 9)), api.ErrOrder},
		{"spans that follow each other", open(box(0, 2, 0, 0), box(3, 4, 0, 0)), api.OK},
		{"pillars the wrong way round", open(stone(1, 0), stone(0, 0)), api.ErrOrder},
		{"the last two alike", open(stone(0, 0), stone(5, 0), stone(5, 0)), api.ErrOrder},
		{"a closed line, whose boxes meet", closed(box(0, 2, 0, 2), box(2, 4, 2, 4), box(1, 3, 1, 3)), api.OK},
		{"a closed line with all pillars at one place", closed(stone(5, 5), stone(5, 5), stone(5, 5)), api.OK},
	} {
		expect(t, x.what, strip.Check(x.l), x.e)
	}
}

// brokenLines are lines with errors, each with all errors that come behind, too.
func brokenLines() []struct {
	l strip.Line
	e api.Errno
} {
	return []struct {
		l strip.Line
		e api.Errno
	}{
		{open(box(0, 20000, 1, 0)), api.ErrCount},
		{closed(stone(0, 0), box(1, 0, 0, 0)), api.ErrCount},
		{open(stone(0, 0), stone(0, 0), box(0, 0, 1, 0)), api.ErrValue},
		{open(stone(0, 0), stone(0, 0)), api.ErrOrder},
	}
}

// All functions tell the errors of a line first, and nothing else with them.
func TestErrorsOfLines(t *testing.T) {
	for _, x := range brokenLines() {
		a := ask(x.l, arguments{p: at(10001, 0), q: at(10001, 0), x: 10001, partings: make([]strip.Parting, 1), f: strip.Field{X: api.Span{Lo: 1}}})
		for number, e := range a.errors {
			if e != x.e {
				t.Error(x.l, number, e)
			}
		}
		if !a.empty() {
			t.Error(x.l, a)
		}
	}
}

func TestReal(t *testing.T) {
	for _, x := range []struct {
		what  string
		l     strip.Line
		truth []api.Point
		p     api.Point
		place strip.Place
	}{
		{"on a stretch", slope(), points(at(2, 0), at(10, 4)), at(6, 2), strip.On},
		{"south of it", slope(), points(at(2, 1), at(10, 4)), at(6, 2), strip.Outer},
		{"north of it", slope(), points(at(2, 0), at(10, 4)), at(6, 3), strip.Inner},
		{"west of the first pillar", slope(), points(at(2, 1), at(10, 4)), at(-10000, 1), strip.On},
		{"south of there", slope(), points(at(2, 1), at(10, 4)), at(-10000, 0), strip.Outer},
		{"north of there", slope(), points(at(2, 1), at(10, 4)), at(-10000, 2), strip.Inner},
		{"east of the last pillar", slope(), points(at(2, 1), at(10, 4)), at(10000, 4), strip.On},
		{"south of there", slope(), points(at(2, 1), at(10, 4)), at(10000, 3), strip.Outer},
		{"north of there", slope(), points(at(2, 1), at(10, 4)), at(10000, 5), strip.Inner},
		{"on a pillar", slope(), points(at(2, 1), at(10, 4)), at(2, 1), strip.On},
		{"north of a pillar", slope(), points(at(2, 1), at(10, 4)), at(2, 2), strip.Inner},
		{"south of a pillar", slope(), points(at(2, 1), at(10, 4)), at(2, 0), strip.Outer},
		{"in a square", square(), points(at(-1, -1), at(20, 0), at(20, 20), at(0, 20)), at(0, 0), strip.Inner},
		{"outside of a square", square(), points(at(1, 1), at(20, 0), at(20, 20), at(0, 20)), at(0, 0), strip.Outer},
		{"at its corner", square(), points(at(0, 0), at(20, 0), at(20, 20), at(0, 20)), at(0, 0), strip.On},
		{"level with two corners", square(), points(at(0, 0), at(20, 0), at(20, 20), at(0, 20)), at(-5, 20), strip.Outer},
		{"above two corners", square(), points(at(0, 0), at(20, 0), at(20, 20), at(0, 20)), at(20, 21), strip.Outer},
	} {
		place, e := strip.Real(x.l, x.truth, x.p)
		if place != x.place || e != api.OK {
			t.Error(x.what, place, e)
		}
	}
}

// A way that goes round a point twice goes round it an even number of times; one that goes back on itself counts twice.
func TestRealCountsCrossings(t *testing.T) {
	twice := points(at(0, 0), at(9, 0), at(0, 9), at(0, 0), at(9, 0), at(0, 9))
	back := points(at(0, 0), at(9, 9), at(0, 0))
	bow := points(at(0, 0), at(8, 8), at(8, 0), at(0, 8))
	for _, x := range []struct {
		truth []api.Point
		p     api.Point
		place strip.Place
	}{
		{twice, at(2, 2), strip.Outer},
		{twice, at(4, 5), strip.On},
		{twice[1:], at(2, 2), strip.Inner},
		{twice[:5], at(2, 2), strip.Inner},
		{back, at(5, 4), strip.Outer},
		{back, at(4, 5), strip.Outer},
		{back, at(5, 5), strip.On},
		{bow, at(4, 4), strip.On},
		{bow, at(2, 4), strip.Inner},
		{bow, at(6, 4), strip.Inner},
		{bow, at(4, 6), strip.Outer},
		{bow, at(4, 2), strip.Outer},
	} {
		l := strip.Line{Closed: true, Pillars: slices.Repeat([]strip.Box{box(0, 9, 0, 9)}, len(x.truth))}
		if place, e := strip.Real(l, x.truth, x.p); place != x.place || e != api.OK {
			t.Error(x.truth, x.p, place, e)
		}
	}
}

func TestErrorsOfReal(t *testing.T) {
	for _, x := range []struct {
		what  string
		truth []api.Point
		p     api.Point
		e     api.Errno
	}{
		{"no truth", nil, at(0, 10001), api.ErrArg},
		{"a place less", points(at(9, 9)), at(0, 10001), api.ErrArg},
		{"a place more", points(at(0, 0), at(10, 4), at(10, 4)), at(0, 0), api.ErrArg},
		{"a place west of its box", points(at(-1, 0), at(10, 4)), at(0, 0), api.ErrFalse},
		{"a place east of its box", points(at(3, 0), at(10, 4)), at(0, 0), api.ErrFalse},
		{"a place south of its box", points(at(0, -1), at(10, 4)), at(0, 0), api.ErrFalse},
		{"a place north of its box", points(at(0, 2), at(10, 4)), at(0, 0), api.ErrFalse},
		{"the last place, and the point", points(at(0, 0), at(10, 5)), at(0, 10001), api.ErrFalse},
		{"a point too far north", points(at(0, 0), at(10, 4)), at(0, 10001), api.ErrValue},
		{"a point too far west", points(at(0, 0), at(10, 4)), at(-10001, 0), api.ErrValue},
		{"a point as far as can be", points(at(0, 0), at(10, 4)), at(-10000, -10000), api.OK},
	} {
		place, e := strip.Real(slope(), x.truth, x.p)
		expect(t, x.what, e, x.e)
		if place != 0 {
			t.Error(x.what, place)
		}
	}
}
