package sight_test

import (
	"math"
	"slices"
	"testing"

	"limitrophe/api"
	"limitrophe/sight"
)

func TestCheckTellsCounts(t *testing.T) {
	pillars := func(many int) []api.Point { return make([]api.Point, many) }
	sights := func(many int) []sight.Sight { return slices.Repeat([]sight.Sight{seen(0, 1, 1, 0, 0, 1)}, many) }
	for _, x := range []struct {
		what            string
		pillars, sights int
		e               api.Errno
	}{
		{"nothing", 0, 0, api.ErrCount},
		{"sights without pillars", 0, 1, api.ErrCount},
		{"one pillar", 1, 0, api.OK},
		{"one sight", 2, 1, api.OK},
		{"10 pillars and 20 sights", 10, 20, api.OK},
		{"11 pillars", 11, 0, api.ErrCount},
		{"21 sights", 2, 21, api.ErrCount},
	} {
		expect(t, x.what, sight.Check(sight.Net{Pillars: pillars(x.pillars), Sights: sights(x.sights)}), x.e)
	}
}

func TestCheckTellsPillars(t *testing.T) {
	for _, x := range []struct {
		p api.Point
		e api.Errno
	}{
		{at(0, 0), api.OK},
		{at(1000, 0), api.OK},
		{at(0, 1000), api.OK},
		{at(1000, 1000), api.OK},
		{at(60, 60), api.OK}, // where another one stands
		{at(-1, 0), api.ErrValue},
		{at(1001, 0), api.ErrValue},
		{at(0, -1), api.ErrValue},
		{at(0, 1001), api.ErrValue},
		{at(math.MinInt, math.MaxInt), api.ErrValue},
	} {
		for pillar := range 3 {
			if e := sight.Check(moved(three(), pillar, x.p)); e != x.e {
				t.Error(x.p, pillar, e)
			}
		}
	}
}

func TestCheckTellsSights(t *testing.T) {
	for _, x := range []struct {
		what string
		s    sight.Sight
		e    api.Errno
	}{
		{"the last pillar", seen(2, 0, 1, 0, 0, 1), api.OK},
		{"From none", seen(3, 0, 1, 0, 0, 1), api.ErrArg},
		{"From one below 0", seen(-1, 0, 1, 0, 0, 1), api.ErrArg},
		{"To none", seen(0, 3, 1, 0, 0, 1), api.ErrArg},
		{"To one below 0", seen(0, -1, 1, 0, 0, 1), api.ErrArg},
		{"From a pillar To itself", seen(1, 1, 1, 0, 0, 1), api.ErrArg},
		{"the greatest numbers", seen(math.MaxInt, math.MinInt, 1, 0, 0, 1), api.ErrArg},
		{"From none, and no direction", seen(0, 3, 0, 0, 0, 1), api.ErrArg},
		{"Right at its limits", seen(0, 1, 50, -50, 50, 50), api.OK},
		{"Left at its limits", seen(0, 1, -50, 50, -50, -50), api.OK},
		{"Right too far east", seen(0, 1, 51, 0, 0, 1), api.ErrValue},
		{"Right too far west", seen(0, 1, -51, 0, 0, -1), api.ErrValue},
		{"Right too far north", seen(0, 1, 0, 51, -1, 0), api.ErrValue},
		{"Right too far south", seen(0, 1, 0, -51, 1, 0), api.ErrValue},
		{"Left too far east", seen(0, 1, 0, -1, 51, 0), api.ErrValue},
		{"Left too far west", seen(0, 1, 0, 1, -51, 0), api.ErrValue},
		{"Left too far north", seen(0, 1, 1, 0, 0, 51), api.ErrValue},
		{"Left too far south", seen(0, 1, -1, 0, 0, -51), api.ErrValue},
		{"numbers whose products are too large", seen(0, 1, math.MaxInt, 1, 1, math.MaxInt), api.ErrValue},
		{"no Right", seen(0, 1, 0, 0, 0, 1), api.ErrValue},
		{"no Left", seen(0, 1, 1, 0, 0, 0), api.ErrValue},
		{"Left to the right", seen(0, 1, 0, 1, 1, 0), api.ErrValue},
		{"both the same", seen(0, 1, 1, 2, 1, 2), api.ErrValue},
		{"both in one direction", seen(0, 1, 1, 2, 2, 4), api.ErrValue},
		{"half a turn", seen(0, 1, 1, 2, -1, -2), api.ErrValue},
		{"nearly half a turn", seen(0, 1, 50, 49, -49, -48), api.OK},
		{"a little more than half a turn", seen(0, 1, 50, 49, -48, -48), api.ErrValue},
		{"hardly any turn", seen(0, 1, 50, 49, 49, 49), api.OK},
		{"as much to the right", seen(0, 1, 49, 49, 50, 49), api.ErrValue},
	} {
		for number := range 2 {
			n := three()
			n.Sights[number] = x.s
			expect(t, x.what, sight.Check(n), x.e)
		}
	}
}

// The first sight with an error decides, and pillars come before sights.
func TestCheckTellsTheFirstError(t *testing.T) {
	noPillar, noDirection := seen(0, 3, 1, 0, 0, 1), seen(0, 1, 51, 0, 0, 1)
	for _, x := range []struct {
		what string
		n    sight.Net
		e    api.Errno
	}{
		{"too many pillars, and not of the land", sight.Net{Pillars: slices.Repeat([]api.Point{at(-1, 0)}, 11)}, api.ErrCount},
		{"too many sights, and a pillar not of the land", sight.Net{Pillars: []api.Point{at(-1, 0)}, Sights: make([]sight.Sight, 21)}, api.ErrCount},
		{"no pillars, and sights of none", sight.Net{Sights: []sight.Sight{noPillar}}, api.ErrCount},
		{"the last pillar, and a sight", moved(with(three(), noPillar), 2, at(0, 1001)), api.ErrValue},
		{"no pillar in the first sight", sight.Net{Pillars: three().Pillars, Sights: []sight.Sight{noPillar, noDirection}}, api.ErrArg},
		{"no direction in the first sight", sight.Net{Pillars: three().Pillars, Sights: []sight.Sight{noDirection, noPillar}}, api.ErrValue},
		{"no pillar in the last sight", with(three(), noPillar), api.ErrArg},
		{"no direction in the last sight", with(three(), noDirection), api.ErrValue},
	} {
		expect(t, x.what, sight.Check(x.n), x.e)
	}
}

// All functions tell the errors of a net first, then those of what else they are asked.
func TestErrorsInTheirOrder(t *testing.T) {
	bad := arguments{3, at(0, 0), proof(-1, list(9), nil)}
	noLand, noPillar := moved(three(), 0, at(-1, 0)), with(three(), seen(1, 1, 0, 0, 0, 0))
	for _, x := range []struct {
		n sight.Net
		e api.Errno
	}{{sight.Net{}, api.ErrCount}, {noLand, api.ErrValue}, {noPillar, api.ErrArg}, {with(three(), seen(0, 1, 0, 0, 0, 0)), api.ErrValue}} {
		a := ask(x.n, bad)
		for number, e := range a.errors {
			if e != x.e {
				t.Error(x.n, number, e)
			}
		}
		if a.besidesErrors() {
			t.Error(x.n, a)
		}
	}
	for _, pillar := range list(4, -1, math.MaxInt, math.MinInt) {
		bad.pillar = pillar
		expectErrors(t, four(), bad, [13]api.Errno{ofBounds: api.ErrArg, ofCorners: api.ErrArg, ofBox: api.ErrArg, ofReach: api.ErrArg, ofWhy: api.ErrArg, ofProves: api.ErrArg, ofClash: api.ErrArg, ofRefutes: api.ErrArg, ofLoose: api.ErrArg})
	}
	bad.pillar = 2
	for _, to := range []api.Point{at(0, 0), at(51, 0), at(-51, 0), at(0, 51), at(0, -51), at(math.MinInt, math.MaxInt)} {
		bad.to = to
		expectErrors(t, four(), bad, [13]api.Errno{ofCorners: api.ErrClash, ofBox: api.ErrClash, ofReach: api.ErrValue, ofWhy: api.ErrValue, ofProves: api.ErrValue, ofRefutes: api.ErrCount})
	}
	bad.to = at(-50, 50)
	expectErrors(t, four(), bad, [13]api.Errno{ofCorners: api.ErrClash, ofBox: api.ErrClash, ofReach: api.ErrClash, ofWhy: api.ErrClash, ofProves: api.ErrCount, ofRefutes: api.ErrCount})
	expectErrors(t, three(), bad, [13]api.Errno{ofProves: api.ErrCount, ofClash: api.ErrNone, ofRefutes: api.ErrCount, ofLoose: api.ErrState, ofMovers: api.ErrState, ofConvict: api.ErrState})
}

// expectErrors reports errors that are not those wanted, and what comes with them.
func expectErrors(t *testing.T, n sight.Net, x arguments, want [13]api.Errno) {
	t.Helper()
	a := ask(n, x)
	if a.errors != want || a.besidesErrors() {
		t.Error(n, x, a)
	}
}

// Both functions that check a proof tell its errors in their order.
func TestErrorsOfProofs(t *testing.T) {
	const most = 1000000
	for _, x := range []struct {
		what string
		p    sight.Proof
		e    api.Errno
	}{
		{"no bounds", proof(0, nil, nil), api.ErrCount},
		{"no bounds, but a weight", proof(0, nil, list(1)), api.ErrCount},
		{"four bounds", proof(0, list(0, 1, 2, 3), list(1, 1, 1, 1)), api.ErrCount},
		{"a weight less", proof(0, list(0, 1), list(1)), api.ErrCount},
		{"a weight more", proof(0, list(0, 1), list(1, 1, 1)), api.ErrCount},
		{"a weight less, and all else", proof(-1, list(0, 0, 99), list(-1, -1)), api.ErrCount},
		{"a bound that there is not", proof(0, list(0, 8), list(1, 1)), api.ErrArg},
		{"the last bound", proof(0, list(0, 7), list(1, 1)), api.OK},
		{"a bound below 0", proof(0, list(-1, 0), list(1, 1)), api.ErrArg},
		{"the greatest number", proof(0, list(0, math.MaxInt), list(1, 1)), api.ErrArg},
		{"a bound that there is not, and all else", proof(-1, list(5, 5, 8), list(-1, 1, 1)), api.ErrArg},
		{"a bound twice", proof(0, list(5, 5), list(1, 1)), api.ErrOrder},
		{"bounds the wrong way round", proof(0, list(1, 0), list(1, 1)), api.ErrOrder},
		{"the last two the wrong way round", proof(0, list(1, 5, 3), list(1, 1, 1)), api.ErrOrder},
		{"the wrong way round, and all else", proof(-1, list(1, 0), list(-1, 1)), api.ErrOrder},
		{"a weight below 0", proof(0, list(0, 1), list(1, -1)), api.ErrValue},
		{"the greatest weights", proof(0, list(0, 1, 2), list(most, most, most)), api.OK},
		{"a weight above", proof(0, list(0, 1), list(most+1, 1)), api.ErrValue},
		{"another weight above", proof(0, list(0, 1), list(1, math.MaxInt)), api.ErrValue},
		{"Times below 0", proof(-1, list(0, 1), list(1, 1)), api.ErrValue},
		{"the greatest Times", proof(most, list(0, 1), list(1, 1)), api.OK},
		{"Times above", proof(most+1, list(0, 1), list(1, 1)), api.ErrValue},
	} {
		ratio, e := sight.Proves(three(), 2, at(1, 0), x.p)
		is, f := sight.Refutes(three(), 2, x.p)
		if x.e == api.OK && e == api.ErrFalse { // it proves nothing to the east
			e = api.OK
		}
		if e != x.e || f != x.e || is || ratio != (api.Ratio{}) {
			t.Error(x.what, ratio, e, is, f)
		}
	}
}
