package ridge_test

import (
	"math"
	"slices"
	"testing"

	"limitrophe/api"
	"limitrophe/ridge"
)

// P4.1: how many cells there are, and how many of them in a row.
func TestCheckTellsCounts(t *testing.T) {
	for _, x := range []struct {
		what  string
		wide  int
		cells int
		seas  int
		e     api.Errno
	}{
		{"nothing", 0, 0, 0, api.ErrCount},
		{"no cells, but a row", 1, 0, 0, api.ErrCount},
		{"three cells in a row", 3, 3, 3, api.OK},
		{"three cells in a column", 1, 3, 3, api.OK},
		{"100 cells in a row", 100, 100, 100, api.OK},
		{"100 cells in a column", 1, 100, 100, api.OK},
		{"100 cells in rows", 10, 100, 100, api.OK},
		{"101 cells in a row", 101, 101, 101, api.ErrCount},
		{"101 cells in a column", 1, 101, 101, api.ErrCount},
		{"110 cells in rows", 10, 110, 110, api.ErrCount},
		{"none in a row", 0, 3, 3, api.ErrCount},
		{"fewer than none in a row", -1, 3, 3, api.ErrCount},
		{"as few as can be in a row", math.MinInt, 3, 3, api.ErrCount},
		{"more in a row than there are", 6, 3, 3, api.ErrCount},
		{"as many as can be in a row", math.MaxInt, 3, 3, api.ErrCount},
		{"no whole rows", 2, 5, 5, api.ErrCount},
		{"no whole rows of 100 cells", 3, 100, 100, api.ErrCount},
		{"Seas too short", 3, 3, 2, api.ErrCount},
		{"no Seas", 3, 3, 0, api.ErrCount},
		{"Seas too long", 3, 3, 4, api.ErrCount},
		{"Seas longer than there may be cells", 3, 3, 101, api.ErrCount},
	} {
		g := ridge.Ground{Wide: x.wide, Heights: make([]api.Span, x.cells), Seas: make([]int, x.seas)}
		if x.seas > 2 {
			g.Seas[0], g.Seas[x.seas-1] = 1, 2
		}
		expect(t, x.what, ridge.Check(g), x.e)
	}
}

// P4.1: the numbers of seas, and the ends of spans, those of cells of a sea too.
func TestCheckTellsValues(t *testing.T) {
	for _, sea := range list(-1, 3, math.MinInt, math.MaxInt) {
		for cell := range 5 {
			expect(t, "a sea that there is not", ridge.Check(withSea(ground(one), cell, sea)), api.ErrValue)
		}
	}
	for _, x := range []struct {
		s api.Span
		e api.Errno
	}{
		{span(0, 0), api.OK},
		{span(0, 10000), api.OK},
		{span(10000, 10000), api.OK},
		{span(-1, 0), api.ErrValue},
		{span(-1, -1), api.ErrValue},
		{span(0, -1), api.ErrValue},
		{span(0, 10001), api.ErrValue},
		{span(10001, 10001), api.ErrValue},
		{span(10001, 10000), api.ErrValue},
		{span(1, 0), api.ErrValue},
		{span(10000, 9999), api.ErrValue},
		{span(math.MinInt, math.MaxInt), api.ErrValue},
		{span(math.MaxInt, math.MinInt), api.ErrValue},
	} {
		for cell := range 5 {
			if e := ridge.Check(withHeight(ground(one), cell, x.s)); e != x.e {
				t.Error(x.s, cell, e)
			}
		}
	}
}

// P4.1: both seas have a cell, and no cell of the one is a neighbour of one of the other.
func TestCheckTellsSeas(t *testing.T) {
	for _, x := range []struct {
		ground string
		e      api.Errno
	}{
		{"5", api.ErrNone},
		{"A", api.ErrNone},
		{"B", api.ErrNone},
		{"A 5", api.ErrNone},
		{"5 B", api.ErrNone},
		{"5 5 / 5 5", api.ErrNone},
		{"A A / A A", api.ErrNone},
		{"A B", api.ErrClash},
		{"B A", api.ErrClash},
		{"A / B", api.ErrClash},
		{"B / A", api.ErrClash},
		{"A 5 B", api.OK},
		{"B / 5 / A", api.OK},
		{"A 5 / 5 B", api.OK},     // only corners touch
		{"5 A / B 5", api.OK},     // only corners touch
		{"5 5 A / B 5 5", api.OK}, // the end of a row and the beginning of the next one
		{"5 5 B / A 5 5", api.OK},
		{"A 5 5 / 5 5 B / 5 5 A", api.ErrClash},
		{"A 5 5 / 5 5 5 / 5 A B", api.ErrClash},
		{"A A 5 B B / A A 5 B B", api.OK},
		{"A A 5 B B / A A B B B", api.ErrClash},
	} {
		expect(t, x.ground, ridge.Check(ground(x.ground)), x.e)
	}
}

// P4.1: errors come in their order.
func TestCheckTellsTheFirstError(t *testing.T) {
	for _, x := range []struct {
		what string
		g    ridge.Ground
		e    api.Errno
	}{
		{"no whole rows, and a sea that there is not", ridge.Ground{Wide: 2, Heights: make([]api.Span, 3), Seas: list(3, 0, 0)}, api.ErrCount},
		{"too many cells, and no height", ridge.Ground{Wide: 101, Heights: slices.Repeat([]api.Span{span(-1, 0)}, 101), Seas: make([]int, 101)}, api.ErrCount},
		{"a sea that there is not, and none of the first", withSea(ground("5 5 B"), 0, 3), api.ErrValue},
		{"a sea that there is not, and a clash", withSea(ground("A B 5"), 2, 3), api.ErrValue},
		{"no height, and no seas", withHeight(ground("5 5"), 1, span(0, 10001)), api.ErrValue},
		{"no height, and a clash", withHeight(ground("A B 5"), 2, span(0, 10001)), api.ErrValue},
		{"no height of a sea, and a clash", withHeight(ground("A B 5"), 0, span(2, 1)), api.ErrValue},
	} {
		expect(t, x.what, ridge.Check(x.g), x.e)
	}
}

// Each function tells the errors of a ground first, then those of what else it is asked, in their order.
func TestErrorsInTheirOrder(t *testing.T) {
	bad := arguments{truth: list(9, 9), sea: 3, way: list(-1), cells: list(9, -1, 9), height: -1}
	clash, noSea := ground("A B 5"), ground("A 5 5")
	noValue, noCount := withSea(ground(one), 2, 3), ridge.Ground{Wide: 2, Heights: make([]api.Span, 3), Seas: make([]int, 3)}
	for _, x := range []struct {
		g ridge.Ground
		e api.Errno
	}{{ridge.Ground{}, api.ErrCount}, {noCount, api.ErrCount}, {noValue, api.ErrValue}, {noSea, api.ErrNone}, {clash, api.ErrClash}} {
		a := ask(x.g, bad)
		for number, e := range a.errors {
			if e != x.e {
				t.Error(x.g, number, e)
			}
		}
		if a.besidesErrors() {
			t.Error(x.g, a)
		}
	}
	expectErrors(t, ground(one), bad, [11]api.Errno{ofDrains: api.ErrArg, ofPasses: api.ErrArg, ofCrosses: api.ErrArg, ofParts: api.ErrArg})
	bad = arguments{truth: list(0, 5, 9, 9, 0), sea: 0, way: list(1, 3), cells: list(3, 1), height: -1}
	expectErrors(t, ground(one), bad, [11]api.Errno{ofDrains: api.ErrFalse, ofPasses: api.ErrArg, ofCrosses: api.ErrFalse, ofParts: api.ErrOrder})
	bad = arguments{truth: list(0, 5, 9, 8, 0), sea: 1, way: list(1, 2, 3), cells: list(1, 3), height: -1}
	expectErrors(t, ground(one), bad, [11]api.Errno{ofParts: api.ErrValue})
}

// P4.1: a truth has a height in its span for each cell, those of a sea too.
func TestErrorsOfTruths(t *testing.T) {
	for _, x := range []struct {
		truth []int
		e     api.Errno
	}{
		{list(0, 3, 7, 4, 0), api.OK},
		{list(0, 5, 9, 8, 0), api.OK},
		{nil, api.ErrArg},
		{list(0, 3, 7, 4), api.ErrArg},
		{list(0, 3, 7, 4, 0, 0), api.ErrArg},
		{list(9, 9, 9, 9), api.ErrArg},
		{make([]int, 100), api.ErrArg},
		{list(0, 2, 7, 4, 0), api.ErrFalse},
		{list(0, 6, 7, 4, 0), api.ErrFalse},
		{list(0, 3, 6, 4, 0), api.ErrFalse},
		{list(0, 3, 7, 9, 0), api.ErrFalse},
		{list(1, 3, 7, 4, 0), api.ErrFalse},
		{list(0, 3, 7, 4, -1), api.ErrFalse},
		{list(0, math.MinInt, math.MaxInt, 4, 0), api.ErrFalse},
	} {
		if l, e := ridge.Drains(ground(one), x.truth); e != x.e || e != api.OK && len(l) > 0 {
			t.Error(x.truth, l, e)
		}
	}
}

// P4.2: there are two seas.
func TestErrorsOfSeas(t *testing.T) {
	for _, sea := range list(-1, 0, 3, 4, math.MinInt, math.MaxInt) {
		if l, e := ridge.Passes(ground(one), sea); e != api.ErrArg || len(l) > 0 {
			t.Error(sea, l, e)
		}
	}
}

// P4.3: the errors of a crossing.
func TestErrorsOfCrossings(t *testing.T) {
	for _, x := range []struct {
		what string
		way  []int
		e    api.Errno
	}{
		{"all of it", list(1, 2, 3), api.OK},
		{"nothing", nil, api.ErrFalse},
		{"a cell of the first sea", list(0, 1, 2, 3), api.ErrArg},
		{"a cell of the second sea", list(1, 2, 3, 4), api.ErrArg},
		{"a cell that there is not", list(1, 2, 3, 5), api.ErrArg},
		{"a cell below 0", list(-1, 1, 2, 3), api.ErrArg},
		{"the greatest number", list(1, math.MaxInt, 3), api.ErrArg},
		{"the least number", list(1, math.MinInt, 3), api.ErrArg},
		{"no crossing, and at its end no land", list(2, 4), api.ErrArg},
		{"the end is missing", list(1, 2), api.ErrFalse},
		{"the beginning is missing", list(2, 3), api.ErrFalse},
		{"a gap", list(1, 3), api.ErrFalse},
		{"a cell that is no neighbour of itself", list(1, 2, 2, 3), api.ErrFalse},
		{"the other way round", list(3, 2, 1), api.ErrFalse},
	} {
		s, e := ridge.Crosses(ground(one), x.way)
		expect(t, x.what, e, x.e)
		if e != api.OK && s != span(0, 0) {
			t.Error(x.what, s)
		}
	}
	for _, way := range [][]int{list(3), list(5), list(0), list(3, 1), list(7, 5), list(3, 4), list(4, 5), list(0, 1), list(3, 5), list(5, 4, 3)} {
		_, e := ridge.Crosses(ground("5 5 B / 5 5 5 / A 5 5"), way)
		expect(t, "no crossing of three rows", e, api.ErrFalse)
	}
	_, e := ridge.Crosses(ground("A 5 5 / 5 5 B"), list(1, 2, 3, 4)) // the end of a row and the beginning of the next one
	expect(t, "from row to row", e, api.ErrFalse)
}

// P4.3: the errors of a ridge.
func TestErrorsOfRidges(t *testing.T) {
	for _, x := range []struct {
		what   string
		cells  []int
		height int
		e      api.Errno
	}{
		{"the last cell", list(3), 0, api.OK},
		{"no cells", nil, 0, api.OK},
		{"the greatest height", list(2), 10000, api.OK},
		{"a cell of the first sea", list(0), 0, api.ErrArg},
		{"a cell of the second sea", list(4), 0, api.ErrArg},
		{"a cell that there is not", list(5), 0, api.ErrArg},
		{"a cell below 0", list(-1), 0, api.ErrArg},
		{"the greatest number", list(1, math.MaxInt), 0, api.ErrArg},
		{"no land, and all else", list(3, 1, 4), -1, api.ErrArg},
		{"the wrong way round", list(2, 1), 0, api.ErrOrder},
		{"the last two the wrong way round", list(1, 3, 2), 0, api.ErrOrder},
		{"a cell twice", list(2, 2), 0, api.ErrOrder},
		{"a cell twice, and no height", list(2, 2), 10001, api.ErrOrder},
		{"a height below 0", list(2), -1, api.ErrValue},
		{"a height above", list(2), 10001, api.ErrValue},
		{"no cells, and a height above", nil, 10001, api.ErrValue},
		{"the greatest height of all", list(2), math.MaxInt, api.ErrValue},
		{"the least height of all", list(2), math.MinInt, api.ErrValue},
	} {
		is, e := ridge.Parts(ground(one), x.cells, x.height)
		expect(t, x.what, e, x.e)
		if e != api.OK && is {
			t.Error(x.what, is)
		}
	}
}

// expectErrors reports errors that are not those wanted, and what comes with them.
func expectErrors(t *testing.T, g ridge.Ground, x arguments, want [11]api.Errno) {
	t.Helper()
	a := ask(g, x)
	if a.errors != want || a.besidesErrors() {
		t.Error(g, x, a)
	}
}
