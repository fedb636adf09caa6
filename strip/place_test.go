package strip_test

import (
	"math"
	"testing"

	"limitrophe/api"
	"limitrophe/strip"
)

func TestPlacesOfExamples(t *testing.T) {
	for _, x := range []struct {
		l     strip.Line
		p     api.Point
		place strip.Place
	}{
		{slope(), at(6, 3), strip.Inner},
		{slope(), at(6, 1), strip.Outer},
		{slope(), at(6, 2), strip.Strip},
		{slope(), at(20, 4), strip.On},
		{square(), at(10, 10), strip.Inner},
		{square(), at(2, 2), strip.Inner},
		{square(), at(-2, 10), strip.Outer},
		{square(), at(0, 10), strip.Strip},
		{square(), at(1, 1), strip.Strip},
		{square(), at(20, 10), strip.On},
		{flat(), at(2, 0), strip.On},
		{flat(), at(3, 0), strip.On},
		{flat(), at(5, 0), strip.On},
		{flat(), at(1, 0), strip.Strip},
	} {
		expectPlace(t, x.l, x.p, x.place)
	}
}

// What has no end in the west and in the east goes as far as points do.
func TestPlacesBesideTheLastPillars(t *testing.T) {
	for _, x := range []struct {
		p     api.Point
		place strip.Place
	}{
		{at(-10000, 2), strip.Inner},
		{at(-10000, 1), strip.Strip},
		{at(-10000, 0), strip.Strip},
		{at(-10000, -1), strip.Outer},
		{at(10000, 5), strip.Inner},
		{at(10000, 4), strip.On},
		{at(10000, 3), strip.Outer},
		{at(10, 4), strip.On},
		{at(9, 4), strip.Inner},
		{at(0, -1), strip.Outer},
		{at(2, 0), strip.Strip},
	} {
		expectPlace(t, slope(), x.p, x.place)
	}
}

// A point can be on the line in each truth, though its stretch is not the same in all.
func TestPlacesThatAreOnSomeStretch(t *testing.T) {
	for _, x := range []struct {
		what  string
		l     strip.Line
		p     api.Point
		place strip.Place
	}{
		{"before or behind a pillar", open(box(0, 2, 3, 3), box(4, 6, 3, 3), stone(9, 3)), at(5, 3), strip.On},
		{"behind it another Y can be", open(box(0, 2, 3, 3), box(4, 6, 3, 3), box(9, 9, 3, 4)), at(5, 3), strip.Strip},
		{"so it can, but the pillar is not behind", open(box(0, 2, 3, 3), box(4, 6, 3, 3), box(9, 9, 3, 4)), at(4, 3), strip.On},
		{"before it another Y can be", open(box(0, 0, 2, 3), box(4, 6, 3, 3), stone(9, 3)), at(5, 3), strip.Strip},
		{"two pillars between others", open(stone(0, 3), box(3, 5, 3, 3), box(6, 8, 3, 3), stone(9, 3)), at(4, 3), strip.On},
		{"west or east of the first pillar", open(box(0, 2, 3, 3), stone(4, 3)), at(1, 3), strip.On},
		{"west or east of the last pillar", open(stone(-2, 3), box(0, 2, 3, 3)), at(1, 3), strip.On},
		{"east of a pillar with another Y", open(stone(-2, 4), box(0, 2, 3, 3)), at(1, 3), strip.Strip},
		{"between two pillars, though both can be aside", closed(box(0, 3, 5, 5), box(2, 6, 5, 5), stone(4, 5)), at(3, 5), strip.On},
		{"or both on one side", closed(box(0, 3, 5, 5), box(2, 6, 5, 5), stone(4, 5)), at(1, 5), strip.Strip},
		{"all pillars can be in the west, or all in the east", closed(box(0, 6, 5, 5), box(0, 6, 5, 5), box(0, 6, 5, 5)), at(3, 5), strip.Strip},
		{"one is in the west, one in the east, and one wherever", closed(stone(0, 5), stone(6, 5), box(0, 6, 5, 5)), at(3, 5), strip.On},
		{"those in the west and in the east have others between them", closed(stone(0, 5), box(0, 6, 5, 5), stone(6, 5), box(0, 6, 5, 5)), at(3, 5), strip.On},
		{"and one of these can be aside", closed(stone(0, 5), box(0, 6, 5, 5), stone(6, 5), box(3, 3, 5, 6)), at(3, 5), strip.On},
		{"and both can be aside", closed(stone(0, 5), box(0, 6, 5, 6), stone(6, 5), box(3, 3, 5, 6)), at(3, 5), strip.Strip},
		{"the stretch to the first pillar", closed(stone(0, 5), stone(3, 9), stone(6, 5)), at(3, 5), strip.On},
		{"south and north", closed(box(3, 3, 0, 2), box(3, 3, 4, 6), stone(9, 3)), at(3, 3), strip.On},
		{"south and north, the last stretch", closed(box(3, 3, 0, 2), stone(9, 3), box(3, 3, 4, 6)), at(3, 3), strip.On},
		{"no two in line with the point", closed(box(3, 3, 0, 2), box(0, 2, 3, 3), stone(9, 9)), at(3, 3), strip.Inner},
		{"askew", closed(stone(0, 0), stone(6, 4), stone(0, 9)), at(3, 2), strip.On},
		{"both ends of a box are in line, from south to north", closed(stone(-1, 1), box(1, 1, -1, 1), stone(-1, -1)), at(0, 0), strip.Strip},
		{"both ends of a box are in line, from west to east", closed(stone(1, -1), box(-1, 1, 1, 1), stone(-1, -1)), at(0, 0), strip.Strip},
		{"two corners are in line, one level with the point", closed(stone(-1, 0), box(1, 2, 0, 1), stone(-2, -1)), at(0, 0), strip.Strip},
		{"two corners are in line, one above the point", closed(stone(0, -1), box(0, 1, 1, 2), stone(-1, -2)), at(0, 0), strip.Strip},
		{"a pillar with one place", closed(stone(3, 3), box(0, 9, 0, 9), box(0, 9, 0, 9)), at(3, 3), strip.On},
		{"a pillar at the end of its box", closed(box(3, 5, 3, 3), box(7, 8, 3, 3), stone(9, 9)), at(3, 3), strip.Strip},
		{"at the corner of a box", closed(box(3, 5, 3, 5), stone(9, 3), stone(9, 9)), at(3, 3), strip.Strip},
		{"inside of a box", closed(box(0, 5, 0, 5), stone(9, 3), stone(9, 9)), at(2, 2), strip.Strip},
	} {
		place, e := strip.Where(x.l, x.p)
		if place != x.place || e != api.OK {
			t.Error(x.what, place, e)
		}
	}
}

func TestPlacesOfFlatLines(t *testing.T) {
	one := closed(stone(5, 5), stone(5, 5), stone(5, 5))
	expectPlace(t, one, at(5, 5), strip.On)
	expectPlace(t, one, at(5, 6), strip.Outer)
	expectPlace(t, one, at(4, 5), strip.Outer)
	long := closed(stone(0, 0), stone(4, 2), stone(8, 4))
	expectPlace(t, long, at(6, 3), strip.On)
	expectPlace(t, long, at(0, 0), strip.On)
	expectPlace(t, long, at(10, 5), strip.Outer)
	expectPlace(t, long, at(-2, -1), strip.Outer)
	expectPlace(t, long, at(6, 2), strip.Outer)
	expectPlace(t, long, at(6, 4), strip.Outer)
	wide := closed(box(0, 9, 0, 0), box(0, 9, 0, 0), box(0, 9, 0, 0))
	expectPlace(t, wide, at(9, 0), strip.Strip)
	expectPlace(t, wide, at(10, 0), strip.Outer)
	expectPlace(t, wide, at(5, 1), strip.Outer)
}

func TestPlacesWhereBoxesMeet(t *testing.T) {
	l := closed(box(0, 4, 0, 4), box(2, 6, 2, 6), box(20, 24, 0, 6))
	expectPlace(t, l, at(3, 3), strip.Strip)
	expectPlace(t, l, at(12, 3), strip.Strip)
	expectPlace(t, l, at(12, 7), strip.Outer)
	same := closed(box(0, 4, 0, 4), box(0, 4, 0, 4), box(0, 4, 0, 4))
	expectPlace(t, same, at(2, 2), strip.Strip)
	expectPlace(t, same, at(4, 4), strip.Strip)
	expectPlace(t, same, at(5, 4), strip.Outer)
}

func TestPlacesAtTheGreatestDistances(t *testing.T) {
	l := closed(stone(-10000, -10000), stone(10000, -10000), stone(10000, 10000), stone(-10000, 10000))
	expectPlace(t, l, at(10000, 10000), strip.On)
	expectPlace(t, l, at(-10000, 3), strip.On)
	expectPlace(t, l, at(9999, 9999), strip.Inner)
	all := closed(box(-10000, 10000, -10000, 10000), stone(0, 0), stone(1, 1))
	expectPlace(t, all, at(10000, -10000), strip.Strip)
	expectPlace(t, all, at(1, 1), strip.On)
	thin := open(stone(-10000, -10000), stone(10000, 9999))
	expectPlace(t, thin, at(9999, 9998), strip.Outer)
	expectPlace(t, thin, at(9999, 9999), strip.Inner)
	expectPlace(t, thin, at(-9999, -9999), strip.Inner)
	expectPlace(t, thin, at(-9999, -10000), strip.Outer)
}

func TestErrorsOfPoints(t *testing.T) {
	for _, x := range []struct {
		p api.Point
		e api.Errno
	}{
		{at(10000, -10000), api.OK},
		{at(-10000, 10000), api.OK},
		{at(10001, 0), api.ErrValue},
		{at(-10001, 0), api.ErrValue},
		{at(0, 10001), api.ErrValue},
		{at(0, -10001), api.ErrValue},
		{at(math.MinInt, math.MaxInt), api.ErrValue},
	} {
		_, e := strip.Where(slope(), x.p)
		_, f := strip.Partings(slope(), x.p)
		_, g := strip.Balanced(flat(), x.p)
		_, h := strip.Parts(slope(), x.p, make([]strip.Parting, 3))
		_, k := strip.Balances(slope(), x.p, strip.Balance{})
		expect(t, "Where", e, x.e)
		expect(t, "Parts", h, x.e)
		expect(t, "Balances", k, x.e)
		if (f == api.ErrValue) != (x.e == api.ErrValue) || (g == api.ErrValue) != (x.e == api.ErrValue) {
			t.Error(x.p, f, g)
		}
	}
}

func TestAt(t *testing.T) {
	two := func(n, d, n2, d2 int) [2]api.Ratio { return [2]api.Ratio{{N: n, D: d}, {N: n2, D: d2}} }
	for _, x := range []struct {
		what string
		l    strip.Line
		x    int
		want [2]api.Ratio
	}{
		{"example 1, at 6", slope(), 6, two(2, 1, 14, 5)},
		{"example 1, at 1", slope(), 1, two(0, 1, 13, 10)},
		{"example 1, at -5", slope(), -5, two(0, 1, 1, 1)},
		{"example 1, at 20", slope(), 20, two(4, 1, 4, 1)},
		{"example 3, at 5", slope(), 5, two(3, 2, 5, 2)},
		{"at the west end of a box", slope(), 0, two(0, 1, 1, 1)},
		{"at the east end of a box", slope(), 2, two(0, 1, 8, 5)},
		{"at a box of one place", slope(), 10, two(4, 1, 4, 1)},
		{"as far west as can be", slope(), -10000, two(0, 1, 1, 1)},
		{"as far east as can be", slope(), 10000, two(4, 1, 4, 1)},
		{"below 0", open(stone(0, -3), stone(3, -1)), 1, two(-7, 3, -7, 3)},
		{"nothing", open(stone(-2, -2), stone(2, 2)), 0, two(0, 1, 0, 1)},
		{"in the box in the middle", open(stone(0, 10), box(5, 7, 0, 1), stone(12, 10)), 6, two(0, 1, 16, 7)},
		{"a box far up", open(box(0, 0, -10000, 10000), stone(3, 0)), 1, two(-20000, 3, 20000, 3)},
		{"a box as wide as can be", open(box(-10000, 9999, 0, 1), stone(10000, 10000)), 9999, two(0, 1, 199990001, 20000)},
	} {
		lo, hi, e := strip.At(x.l, x.x)
		if [2]api.Ratio{lo, hi} != x.want || e != api.OK {
			t.Error(x.what, lo, hi, e)
		}
	}
}

func TestErrorsOfAt(t *testing.T) {
	for _, x := range []struct {
		l strip.Line
		x int
		e api.Errno
	}{
		{square(), 0, api.ErrState},
		{square(), 10001, api.ErrState},
		{slope(), 10001, api.ErrValue},
		{slope(), -10001, api.ErrValue},
		{slope(), math.MinInt, api.ErrValue},
	} {
		lo, hi, e := strip.At(x.l, x.x)
		expect(t, "At", e, x.e)
		if lo != (api.Ratio{}) || hi != (api.Ratio{}) {
			t.Error(x.l, x.x, lo, hi)
		}
	}
}
