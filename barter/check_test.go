package barter_test

import (
	"math"
	"slices"
	"testing"

	"limitrophe/api"
	"limitrophe/barter"
)

// P7.1: how many stretches and villages a land has.
func TestCheckTellsCounts(t *testing.T) {
	for _, x := range []struct {
		what                string
		stretches, villages int
		e                   api.Errno
	}{
		{"one stretch", 1, 0, api.OK},
		{"16 stretches", 16, 0, api.OK},
		{"8 villages", 1, 8, api.OK},
		{"the most", 16, 8, api.OK},
		{"nothing", 0, 0, api.ErrCount},
		{"no stretches", 0, 3, api.ErrCount},
		{"17 stretches", 17, 0, api.ErrCount},
		{"9 villages", 1, 9, api.ErrCount},
		{"16 stretches, and 9 villages", 16, 9, api.ErrCount},
		{"17 stretches, and 8 villages", 17, 8, api.ErrCount},
	} {
		l := barter.Land{Stretches: slices.Repeat([]barter.Stretch{ours(1, 1)}, x.stretches), Villages: make([]int, x.villages)}
		expect(t, x.what, barter.Check(l), x.e)
		if x.villages > 0 {
			l.Villages[x.villages-1] = south
			expect(t, x.what+", the last one the South's", barter.Check(l), x.e)
		}
	}
}

// P7.1: on which side a village can be.
func TestCheckTellsVillages(t *testing.T) {
	for side, e := range map[int]api.Errno{
		0: api.OK, 1: api.OK, 2: api.ErrValue, -1: api.ErrValue, math.MaxInt: api.ErrValue, math.MinInt: api.ErrValue,
	} {
		for village := range 3 {
			l := three()
			l.Villages = list(0, 1, 0)
			l.Villages[village] = side
			expect(t, "a village", barter.Check(l), e)
		}
	}
}

// P7.1: which owners and worths a stretch can have: up to each limit, and none beyond.
func TestCheckTellsStretches(t *testing.T) {
	for stretch := range 3 {
		for owner, e := range map[int]api.Errno{
			0: api.OK, 1: api.OK, 2: api.ErrValue, -1: api.ErrValue, math.MaxInt: api.ErrValue, math.MinInt: api.ErrValue,
		} {
			expect(t, "an owner", barter.Check(withStretch(three(), stretch, barter.Stretch{Owner: owner, North: 1, South: 1, Well: none})), e)
		}
		for worth, e := range map[int]api.Errno{
			1: api.OK, 2: api.OK, 1000: api.OK, 1001: api.ErrValue, 0: api.ErrValue, -1: api.ErrValue,
			math.MaxInt: api.ErrValue, math.MinInt: api.ErrValue,
		} {
			expect(t, "a worth for the North", barter.Check(withStretch(three(), stretch, ours(worth, 7))), e)
			expect(t, "a worth for the South", barter.Check(withStretch(three(), stretch, theirs(7, worth))), e)
		}
	}
}

// P7.1: which villages can have their wells on a stretch.
func TestCheckTellsWells(t *testing.T) {
	for _, x := range []struct {
		villages []int
		s        barter.Stretch
		e        api.Errno
	}{
		{nil, well(none, ours(1, 1)), api.OK},
		{nil, well(0, ours(1, 1)), api.ErrArg},
		{nil, well(-2, ours(1, 1)), api.ErrArg},
		{list(north), well(0, ours(1, 1)), api.OK},
		{list(north), well(0, theirs(1, 1)), api.ErrClash},
		{list(south), well(0, theirs(1, 1)), api.OK},
		{list(south), well(0, ours(1, 1)), api.ErrClash},
		{list(south, north), well(1, ours(1, 1)), api.OK},
		{list(south, north), well(1, theirs(1, 1)), api.ErrClash},
		{list(south, north), well(2, ours(1, 1)), api.ErrArg},
		{list(south, north), well(-2, theirs(1, 1)), api.ErrArg},
		{list(0, 0, 0, 0, 0, 0, 0, 1), well(7, theirs(1, 1)), api.OK},
		{list(0, 0, 0, 0, 0, 0, 0, 1), well(7, ours(1, 1)), api.ErrClash},
		{list(0, 0, 0, 0, 0, 0, 0, 1), well(8, ours(1, 1)), api.ErrArg},
		{list(north, south), well(math.MaxInt, ours(1, 1)), api.ErrArg},
		{list(north, south), well(math.MinInt, ours(1, 1)), api.ErrArg},
	} {
		for stretch := range 3 {
			l := withStretch(three(), stretch, x.s)
			l.Villages = x.villages
			if e := barter.Check(l); e != x.e {
				t.Error(x, stretch, e)
			}
		}
	}
	if e := barter.Check(settled(well(0, ours(1, 1)), well(0, ours(2, 2)), well(1, theirs(1, 1)))); e != api.OK {
		t.Error("a village with two wells:", e)
	}
}

// P7.1: errors of a land come in their order; those of stretches one stretch after the other.
func TestCheckTellsTheFirstError(t *testing.T) {
	badOwner, badWorth := barter.Stretch{Owner: 2, North: 1, South: 1, Well: none}, theirs(0, 1)
	noVillage, clash := well(2, ours(1, 1)), well(1, ours(1, 1))
	for _, x := range []struct {
		what string
		l    barter.Land
		e    api.Errno
	}{
		{"no stretches, and a village on neither side", barter.Land{Villages: list(2)}, api.ErrCount},
		{"9 villages on neither side, and bad stretches", barter.Land{Stretches: make([]barter.Stretch, 3), Villages: slices.Repeat(list(9), 9)}, api.ErrCount},
		{"17 bad stretches", barter.Land{Stretches: make([]barter.Stretch, 17), Villages: list(2)}, api.ErrCount},
		{"a village on neither side, and no village of a Well", barter.Land{Stretches: []barter.Stretch{noVillage}, Villages: list(0, 2)}, api.ErrValue},
		{"a village on neither side, and a clash", barter.Land{Stretches: []barter.Stretch{clash}, Villages: list(2, 1)}, api.ErrValue},
		{"no village, then an owner", settled(noVillage, badOwner), api.ErrArg},
		{"an owner, then no village", settled(badOwner, noVillage), api.ErrValue},
		{"a clash, then no village", settled(clash, noVillage), api.ErrClash},
		{"no village, then a clash", settled(noVillage, clash), api.ErrArg},
		{"a clash, then a worth", settled(clash, badWorth), api.ErrClash},
		{"a worth, then a clash", settled(badWorth, clash), api.ErrValue},
		{"a good one, a clash, and an owner", settled(ours(1, 1), clash, badOwner), api.ErrClash},
		{"an owner, and no village of its Well", settled(well(2, badOwner)), api.ErrValue},
		{"a worth, and a clash", settled(well(0, badWorth)), api.ErrValue},
		{"a worth, and no village of its Well", settled(well(-2, badWorth)), api.ErrValue},
	} {
		expect(t, x.what, barter.Check(x.l), x.e)
	}
}

// Each function tells the errors of a land first, and those of an exchange then.
func TestFirstErrors(t *testing.T) {
	lands := map[api.Errno]barter.Land{
		api.ErrCount: {Villages: list(2)},
		api.ErrValue: {Stretches: []barter.Stretch{well(5, ours(1, 1))}, Villages: list(2)},
		api.ErrArg:   settled(well(2, ours(1, 1)), ours(0, 1)),
		api.ErrClash: settled(well(1, ours(1, 1)), ours(0, 1)),
	}
	for e, l := range lands {
		for _, x := range []barter.Exchange{{}, give(0, 1), give(1, 2, 2), give(1, 0)} {
			a := ask(arguments{l: l, x: x, gain: math.MaxInt})
			if a.besidesErrors() || a.errors != every(e) {
				t.Error("errors of a land:", l, x, a)
			}
		}
	}
	for _, x := range []struct {
		what string
		x    barter.Exchange
		e    api.Errno
	}{
		{"a Whole of 0", give(0, 0, 0, 0), api.ErrValue},
		{"a Whole below 0", give(-1, 0, 0, 0), api.ErrValue},
		{"a Whole of 2001", give(2001, 0, 0, 0), api.ErrValue},
		{"the least Whole there is", give(math.MinInt, 0, 0, 0), api.ErrValue},
		{"the greatest Whole there is", give(math.MaxInt, 0, 0, 0), api.ErrValue},
		{"nothing", barter.Exchange{}, api.ErrValue},
		{"a Whole of 2001, and too few parts", give(2001, 0, 0), api.ErrValue},
		{"a Whole of 0, and too many parts", give(0, 0, 0, 0, 0), api.ErrValue},
		{"no parts", give(1), api.ErrCount},
		{"too few parts", give(1, 0, 0), api.ErrCount},
		{"too many parts", give(1, 0, 0, 0, 0), api.ErrCount},
		{"too few parts, one of which is more than all", give(1, 0, 2), api.ErrCount},
		{"too many parts, one of which is less than none", give(1, 0, 0, 0, -1), api.ErrCount},
		{"parts below 0 of the first one", give(5, -1, 0, 0), api.ErrValue},
		{"parts below 0 of the last one", give(5, 0, 0, -1), api.ErrValue},
		{"more than all parts of the first one", give(5, 6, 0, 0), api.ErrValue},
		{"more than all parts of the last one", give(5, 5, 5, 6), api.ErrValue},
		{"more than all of the most parts", give(2000, 0, 2001, 0), api.ErrValue},
		{"the least parts there are", give(1, 0, math.MinInt, 0), api.ErrValue},
		{"the most parts there are", give(2, 0, 0, math.MaxInt), api.ErrValue},
	} {
		a := ask(arguments{l: three(), x: x.x, north: -1, south: -1})
		want := every(x.e)
		for _, number := range list(ofCheck, ofBound, ofNow, ofOrder, ofMost, ofEven) {
			want[number] = api.OK
		}
		if a.besidesErrors() || a.errors != want {
			t.Error(x.what, a)
		}
	}
}

// every returns the same error for all functions.
func every(e api.Errno) [functions]api.Errno {
	return [functions]api.Errno(slices.Repeat([]api.Errno{e}, functions))
}

// P7.2: which exchanges are valid, up to each limit.
func TestLimitsOfExchanges(t *testing.T) {
	for _, x := range []barter.Exchange{
		give(1, 0, 0, 0), give(1, 1, 1, 1), give(2000, 0, 0, 0), give(2000, 2000, 2000, 2000), give(2000, 1999, 1, 0),
	} {
		if n, s, e := barter.Has(three(), x); n != 10*x.Parts[0]+40*x.Parts[1]+20*x.Parts[2] || s != x.Whole*70-30*x.Parts[0]-20*x.Parts[1]-20*x.Parts[2] || e != api.OK {
			t.Error(x, n, s, e)
		}
	}
	most := land(slices.Repeat([]barter.Stretch{theirs(1000, 1000)}, 16)...)
	all := give(2000, slices.Repeat(list(2000), 16)...)
	if n, s, e := barter.Has(most, all); n != 32000000 || s != 0 || e != api.OK {
		t.Error("the most that the North can have:", n, s, e)
	}
	if n, s, e := barter.Gains(most, all); n != 32000000 || s != -32000000 || e != api.OK {
		t.Error("the most that the North can gain:", n, s, e)
	}
	if n, s, e := barter.Has(most, give(2000, make([]int, 16)...)); n != 0 || s != 32000000 || e != api.OK {
		t.Error("the most that the South can have:", n, s, e)
	}
}

// P7.3: which numbers a price can have; an error of an exchange comes ahead of that of a number.
func TestErrorsOfPrices(t *testing.T) {
	good, gone := give(1, 0, 1, 0), give(0, 0, 1, 0)
	for _, x := range []struct {
		x            barter.Exchange
		north, south int
		e            api.Errno
	}{
		{good, 1, 1, api.OK},
		{good, 1, 2000, api.OK},
		{good, 2000, 1, api.OK},
		{good, 2000, 2000, api.OK},
		{good, 0, 1, api.ErrValue},
		{good, 1, 0, api.ErrValue},
		{good, -1, 1, api.ErrValue},
		{good, 1, -1, api.ErrValue},
		{good, 2001, 1, api.ErrValue},
		{good, 1, 2001, api.ErrValue},
		{good, math.MaxInt, 1, api.ErrValue},
		{good, 1, math.MinInt, api.ErrValue},
		{give(1, 1, 0, 0), 0, 1, api.ErrValue},
		{gone, 0, 1, api.ErrValue},
		{give(1, 0, 1), 0, 1, api.ErrCount},
		{give(1, 0, 1), 1, 2001, api.ErrCount},
	} {
		is, e := barter.Holds(three(), x.x, x.north, x.south)
		if e != x.e || e != api.OK && is {
			t.Error(x, is, e)
		}
	}
	if is, e := barter.Holds(tied(), good, 0, 1); is || e != api.ErrValue {
		t.Error("an exchange that is not allowed, and a number that is not:", is, e)
	}
}

// P7.3: a waste is asked for of an exchange that is allowed, and is not best; a price of one that is best.
func TestErrorsOfWasteAndPrice(t *testing.T) {
	for _, x := range []struct {
		what         string
		l            barter.Land
		x            barter.Exchange
		waste, price api.Errno
	}{
		{"best", three(), give(1, 0, 1, 0), api.ErrNone, api.OK},
		{"a waste", three(), give(1, 1, 0, 0), api.OK, api.ErrFalse},
		{"not allowed, and else a waste", tied(), give(2, 0, 0, 2), api.ErrFalse, api.ErrFalse},
		{"not allowed, and no waste", tied(), give(1, 0, 1, 0), api.ErrFalse, api.ErrFalse},
		{"not allowed by some parts", tied(), give(9, 8, 9, 0), api.ErrFalse, api.ErrFalse},
		{"all is bound", allBound(), give(3, 3, 0), api.ErrNone, api.OK},
		{"all is bound, and one is not left", allBound(), give(3, 3, 1), api.ErrFalse, api.ErrFalse},
	} {
		a := ask(arguments{l: x.l, x: x.x, north: 1, south: 1})
		if a.errors[ofWaste] != x.waste || a.errors[ofPrice] != x.price || a.besidesErrors() {
			t.Error(x.what, a)
		}
	}
}

// P7.1: which stretches are bound, and the exchange as things are.
func TestBoundAndNow(t *testing.T) {
	for _, x := range []struct {
		what       string
		l          barter.Land
		bound, now []int
	}{
		{"example 1", three(), nil, list(1, 0, 0)},
		{"example 5", tied(), list(0), list(1, 0, 0)},
		{"all is bound", allBound(), list(0, 1), list(1, 0)},
		{"one that the South owns", settled(ours(1, 2), well(1, theirs(1, 2)), ours(1, 2)), list(1), list(1, 0, 1)},
		{"villages without wells", settled(theirs(1, 2), ours(3, 4)), nil, list(0, 1)},
		{"several wells of one village", settled(well(1, theirs(1, 1)), ours(1, 1), well(1, theirs(2, 1)), theirs(5, 5), well(0, ours(2, 1))),
			list(0, 2, 4), list(0, 1, 0, 0, 1)},
		{"one stretch of the South", land(theirs(1000, 1)), nil, list(0)},
	} {
		if l, e := barter.Bound(x.l); !slices.Equal(l, x.bound) || e != api.OK {
			t.Error(x.what, l, e)
		}
		if now, e := barter.Now(x.l); !same(now, give(1, x.now...)) || e != api.OK {
			t.Error(x.what, now, e)
		}
	}
}
