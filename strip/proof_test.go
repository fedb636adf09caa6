package strip_test

import (
	"math"
	"slices"
	"testing"

	"limitrophe/api"
	"limitrophe/strip"
)

// parted are the partings of example 2, for the point 6, 3.
func parted() []strip.Parting {
	return []strip.Parting{{From: at(2, 1), To: at(0, 1)}, {From: at(10, 4), To: at(0, 1)}, {From: at(10, 4), To: at(11, 4)}}
}

func TestParts(t *testing.T) {
	for _, x := range []struct {
		what   string
		p      api.Point
		change func(l []strip.Parting) []strip.Parting
		is     bool
		e      api.Errno
	}{
		{"example 2", at(6, 3), func(l []strip.Parting) []strip.Parting { return l }, true, api.OK},
		{"a point in the strip", at(6, 2), func(l []strip.Parting) []strip.Parting { return l }, false, api.OK},
		{"a point on one of the lines", at(10, 4), func(l []strip.Parting) []strip.Parting { return l }, false, api.OK},
		{"From and To alike", at(6, 3), func(l []strip.Parting) []strip.Parting { l[0].To = l[0].From; return l }, false, api.OK},
		{"the other way", at(6, 3), func(l []strip.Parting) []strip.Parting {
			l[1] = strip.Parting{From: l[1].To, To: l[1].From}
			return l
		}, false, api.OK},
		{"the wrong stretch", at(6, 3), func(l []strip.Parting) []strip.Parting { l[2] = l[0]; return l }, false, api.OK},
		{"no matter how far To is", at(6, 3), func(l []strip.Parting) []strip.Parting { l[1].To = at(-90, -26); return l }, true, api.OK},
		{"a line that cuts the stretch", at(6, 3), func(l []strip.Parting) []strip.Parting { l[1].To = at(0, 0); return l }, false, api.OK},
		{"a line that does not touch it", at(6, 3), func(l []strip.Parting) []strip.Parting {
			l[0] = strip.Parting{From: at(6, 2), To: at(5, 2)}
			return l
		}, true, api.OK},
		{"a line that cuts what is far away", at(6, 3), func(l []strip.Parting) []strip.Parting {
			l[0] = strip.Parting{From: at(5, 3), To: at(-9995, 0)}
			return l
		}, false, api.OK},
		{"the first coordinate at its limit", at(6, 3), func(l []strip.Parting) []strip.Parting { l[2].To.X = 100000; return l }, true, api.OK},
		{"and beyond", at(6, 3), func(l []strip.Parting) []strip.Parting { l[2].To.X = 100001; return l }, false, api.ErrValue},
		{"the other ones", at(6, 3), func(l []strip.Parting) []strip.Parting { l[0].To = at(-100000, 1); return l }, true, api.OK},
		{"beyond in the west", at(6, 3), func(l []strip.Parting) []strip.Parting { l[0].To = at(-100001, 1); return l }, false, api.ErrValue},
		{"beyond in the south", at(6, 3), func(l []strip.Parting) []strip.Parting { l[0].From.Y = -100001; return l }, false, api.ErrValue},
		{"beyond in the north", at(6, 3), func(l []strip.Parting) []strip.Parting { l[0].From.Y = math.MaxInt; return l }, false, api.ErrValue},
		{"a false one, then one beyond", at(6, 3), func(l []strip.Parting) []strip.Parting {
			l[0], l[2].To.X = strip.Parting{}, 100001
			return l
		}, false, api.ErrValue},
		{"one less, and one beyond", at(6, 3), func(l []strip.Parting) []strip.Parting { l[0].To.X = 100001; return l[:2] }, false, api.ErrArg},
		{"one more", at(6, 3), func(l []strip.Parting) []strip.Parting { return append(l, l[2]) }, false, api.ErrArg},
		{"none", at(6, 3), func(l []strip.Parting) []strip.Parting { return nil }, false, api.ErrArg},
		{"none, and the point", at(10001, 3), func(l []strip.Parting) []strip.Parting { return nil }, false, api.ErrValue},
	} {
		is, e := strip.Parts(slope(), x.p, x.change(parted()))
		if is != x.is || e != x.e {
			t.Error(x.what, is, e)
		}
	}
}

func TestPartings(t *testing.T) {
	for _, x := range []struct {
		what string
		l    strip.Line
		p    api.Point
	}{
		{"example 2", slope(), at(6, 3)},
		{"south of the line", slope(), at(6, 1)},
		{"far away in the west", slope(), at(-10000, 10000)},
		{"far away in the east", slope(), at(10000, -10000)},
		{"inside of a closed line", square(), at(2, 2)},
		{"outside", square(), at(-2, 10)},
		{"in line with a flat hull", flat(), at(8, 0)},
		{"in line with a flat hull, on its other end", flat(), at(-1, 0)},
		{"beside a line of one place", closed(stone(5, 5), stone(5, 5), stone(5, 5)), at(10000, -10000)},
		{"far away from one place", closed(stone(-10000, -10000), stone(-10000, -10000), stone(-10000, -10000)), at(10000, 10000)},
		{"in line with a slanting hull", closed(stone(0, 0), stone(4, 2), stone(8, 4)), at(-2, -1)},
		{"level with the end of the line", open(stone(0, 3), box(3, 3, 0, 2)), at(10000, 3)},
	} {
		list, e := strip.Partings(x.l, x.p)
		expect(t, x.what, e, api.OK)
		expectPartings(t, x.l, x.p, list)
	}
}

// expectPartings reports a list that has not a parting for each stretch.
func expectPartings(t *testing.T, l strip.Line, p api.Point, list []strip.Parting) {
	t.Helper()
	is, e := strip.Parts(l, p, list)
	if !is || e != api.OK {
		t.Error(l, p, list, is, e)
	}
	stretches := stretchesOf(l)
	if len(list) != len(stretches) {
		t.Fatal(l, p, list)
	}
	for number, s := range stretches {
		if !isParting(s, p, list[number]) {
			t.Error(l, p, number, list[number])
		}
	}
}

func TestPartingsOfPointsOnTheLine(t *testing.T) {
	for _, x := range []struct {
		l strip.Line
		p api.Point
	}{{slope(), at(6, 2)}, {slope(), at(20, 4)}, {slope(), at(-9000, 0)}, {square(), at(1, 1)}, {flat(), at(1, 0)}, {flat(), at(3, 9)}} {
		list, e := strip.Partings(x.l, x.p)
		if list != nil || e != api.ErrNone {
			t.Error(x.l, x.p, list, e)
		}
	}
}

func TestBalanced(t *testing.T) {
	for _, x := range []struct {
		what    string
		l       strip.Line
		p       api.Point
		stretch int
	}{
		{"example 2", slope(), at(6, 2), 1},
		{"west of the first pillar", slope(), at(-9999, 1), 0},
		{"on the first pillar, where two stretches can lie", slope(), at(1, 1), 0},
		{"on the last pillar", slope(), at(10, 4), 1},
		{"east of the last pillar", slope(), at(11, 4), 2},
		{"the first stretch", square(), at(15, 0), 0},
		{"the last stretch", square(), at(0, 15), 3},
		{"inside of the first box", square(), at(0, 0), 0},
		{"a flat hull", flat(), at(4, 0), 0},
		{"at the end of a flat hull", flat(), at(7, 0), 0},
		{"a pillar of one place", flat(), at(3, 9), 1},
		{"a hull of one place", closed(stone(5, 5), stone(5, 5), stone(5, 5)), at(5, 5), 0},
		{"a slanting hull", closed(stone(0, 9), stone(8, 13), stone(16, 13)), at(6, 12), 0},
		{"the greatest box", closed(stone(9, 8), stone(8, 8), box(-10000, 10000, -10000, 10000)), at(-10000, 9999), 1},
	} {
		b, e := strip.Balanced(x.l, x.p)
		if b.Stretch != x.stretch || e != api.OK {
			t.Error(x.what, b, e)
		}
		expectBalance(t, x.l, x.p, b)
	}
}

// expectBalance reports what is no balance of a point.
func expectBalance(t *testing.T, l strip.Line, p api.Point, b strip.Balance) {
	t.Helper()
	is, e := strip.Balances(l, p, b)
	if !is || e != api.OK {
		t.Error(l, p, b, is, e)
	}
	if !isMean(stretchesOf(l)[b.Stretch], b.Weights, p) || slices.Min(b.Weights[:]) < 0 || slices.Max(b.Weights[:]) > strip.MaxWeight {
		t.Error(l, p, b)
	}
}

func TestBalancedOfOtherPoints(t *testing.T) {
	for _, x := range []struct {
		l strip.Line
		p api.Point
	}{{slope(), at(6, 3)}, {slope(), at(6, 1)}, {square(), at(2, 2)}, {flat(), at(8, 0)}} {
		b, e := strip.Balanced(x.l, x.p)
		if b != (strip.Balance{}) || e != api.ErrNone {
			t.Error(x.l, x.p, b, e)
		}
	}
}

func TestBalances(t *testing.T) {
	const most = strip.MaxWeight
	for _, x := range []struct {
		what    string
		p       api.Point
		stretch int
		weights [8]int
		is      bool
		e       api.Errno
	}{
		{"example 2", at(6, 2), 1, [8]int{0, 1, 0, 0, 1}, true, api.OK},
		{"another corner of the second box", at(6, 2), 1, [8]int{0, 1, 0, 0, 0, 0, 0, 1}, true, api.OK},
		{"several corners of one place", at(6, 2), 1, [8]int{0, 2, 0, 0, 1, 0, 1}, true, api.OK},
		{"another mean", at(6, 2), 1, [8]int{0, 2, 0, 0, 1}, false, api.OK},
		{"a mean with another Y", at(6, 3), 1, [8]int{0, 1, 0, 0, 1}, false, api.OK},
		{"a mean with another X", at(5, 2), 1, [8]int{0, 1, 0, 0, 1}, false, api.OK},
		{"a mean that is as far west as it is north", at(7, 1), 1, [8]int{0, 1, 0, 0, 1}, false, api.OK},
		{"no weights", at(6, 2), 1, [8]int{}, false, api.OK},
		{"another stretch", at(6, 2), 2, [8]int{0, 1, 0, 0, 1}, false, api.OK},
		{"what is far away in the west", at(-9999, 1), 0, [8]int{0, 0, 0, 1, 0, 0, 1}, true, api.OK},
		{"the same, with another corner there", at(-9999, 1), 0, [8]int{0, 0, 1, 0, 0, 0, 1}, true, api.OK},
		{"what is far away in the east", at(10000, 4), 2, [8]int{1000, 0, 0, 0, 999}, true, api.OK},
		{"not as far", at(10000, 4), 2, [8]int{1000, 0, 0, 0, 998}, false, api.OK},
		{"the greatest weights", at(6, 2), 1, [8]int{0, most, 0, 0, most}, true, api.OK},
		{"all of them", at(6, 2), 1, [8]int{most, most, most, most, most, most, most, most}, false, api.OK},
		{"one more", at(6, 2), 1, [8]int{0, most + 1, 0, 0, most + 1}, false, api.ErrValue},
		{"one below 0", at(6, 2), 1, [8]int{0, 1, 0, 0, 2, -1}, false, api.ErrValue},
		{"the last stretch and one more", at(6, 2), 3, [8]int{0, -1}, false, api.ErrArg},
		{"a stretch below 0", at(6, 2), -1, [8]int{0, -1}, false, api.ErrArg},
		{"a stretch that there is not, and the point", at(6, 10001), -1, [8]int{0, -1}, false, api.ErrValue},
	} {
		is, e := strip.Balances(slope(), x.p, strip.Balance{Stretch: x.stretch, Weights: x.weights})
		if is != x.is || e != x.e {
			t.Error(x.what, is, e)
		}
	}
	_, e := strip.Balances(square(), at(0, 0), strip.Balance{Stretch: 4})
	expect(t, "a closed line has as many stretches as pillars", e, api.ErrArg)
}
