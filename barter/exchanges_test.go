package barter_test

import (
	"math/rand"
	"testing"

	"limitrophe/api"
	"limitrophe/barter"
)

// P7.2: what both sides have and gain, and which exchanges are fair: those of the chapter's examples 1 to 5, and edge
// cases.
func TestHasAndGains(t *testing.T) {
	for _, x := range []struct {
		what         string
		l            barter.Land
		x            barter.Exchange
		has, gains   [2]int
		isFair, best bool
	}{
		{"example 1: as things are", three(), give(1, 1, 0, 0), [2]int{10, 40}, [2]int{0, 0}, true, false},
		{"as things are, in more parts", three(), give(2000, 2000, 0, 0), [2]int{20000, 80000}, [2]int{0, 0}, true, false},
		{"example 2", three(), give(1, 0, 1, 0), [2]int{40, 50}, [2]int{30, 10}, true, true},
		{"example 3", three(), give(3, 0, 2, 0), [2]int{80, 170}, [2]int{50, 50}, true, true},
		{"example 4", three(), give(2, 0, 2, 1), [2]int{100, 80}, [2]int{80, 0}, true, true},
		{"a part more, and the South loses by it", three(), give(4, 0, 4, 3), [2]int{220, 140}, [2]int{180, -20}, false, true},
		{"all for the North", three(), give(1, 1, 1, 1), [2]int{70, 0}, [2]int{60, -40}, false, true},
		{"nothing for the North", three(), give(1, 0, 0, 0), [2]int{0, 70}, [2]int{-10, 30}, false, true},
		{"the North gains nothing", three(), give(4, 0, 1, 0), [2]int{40, 260}, [2]int{0, 100}, true, true},
		{"fair, and not best", three(), give(1, 0, 0, 1), [2]int{20, 50}, [2]int{10, 10}, true, false},
		{"neither fair nor best", three(), give(2, 1, 0, 0), [2]int{10, 110}, [2]int{-10, 30}, false, false},
		{"example 5: as things are", tied(), give(1, 1, 0, 0), [2]int{10, 40}, [2]int{0, 0}, true, true},
		{"example 5: a part of 1 is a loss for the South", tied(), give(3, 3, 1, 0), [2]int{70, 100}, [2]int{40, -20}, false, true},
		{"not allowed, and nobody gains less than 0", tied(), give(1, 0, 1, 0), [2]int{40, 50}, [2]int{30, 10}, false, false},
		{"not allowed by one part", tied(), give(3, 2, 1, 0), [2]int{60, 130}, [2]int{30, 10}, false, false},
		{"not allowed, as the South's well is given away", settled(well(1, theirs(5, 5)), ours(1, 9)), give(1, 1, 0), [2]int{5, 9}, [2]int{4, 4}, false, false},
		{"all is bound, as things are", allBound(), give(5, 5, 0), [2]int{35, 5}, [2]int{0, 0}, true, true},
		{"all is bound, and one part is given", allBound(), give(5, 5, 1), [2]int{44, 4}, [2]int{9, -1}, false, false},
		{"neither is ahead: all that is given is what is got", land(ours(4, 2), theirs(2, 1)), give(2, 1, 2), [2]int{8, 2}, [2]int{0, 0}, true, true},
		{"neither is ahead, as things are", land(ours(4, 2), theirs(2, 1)), give(1, 1, 0), [2]int{4, 1}, [2]int{0, 0}, true, true},
		{"one stretch, as things are", land(theirs(1, 1000)), give(1, 0), [2]int{0, 1000}, [2]int{0, 0}, true, true},
		{"one stretch is given away", land(theirs(1, 1000)), give(1, 1), [2]int{1, 0}, [2]int{1, -1000}, false, true},
	} {
		a := ask(arguments{l: x.l, x: x.x, north: 1, south: 1})
		for number := ofHas; number <= ofBest; number++ {
			expect(t, x.what, a.errors[number], api.OK)
		}
		if a.pairs[0] != x.has || a.pairs[1] != x.gains || a.fair != x.isFair || a.best != x.best {
			t.Error(x.what, a)
		}
	}
}

// P7.3: the first pair that is a waste, or none.
func TestWaste(t *testing.T) {
	several := land(theirs(3, 1), ours(1, 3), theirs(2, 1), ours(1, 2))
	for _, x := range []struct {
		what       string
		l          barter.Land
		x          barter.Exchange
		more, less int
		e          api.Errno
	}{
		{"example 2: as things are", three(), give(1, 1, 0, 0), 1, 0, api.OK},
		{"some parts of 1 and 2", three(), give(2, 0, 1, 1), 1, 2, api.OK},
		{"some parts of all", three(), give(2, 1, 1, 1), 1, 0, api.OK},
		{"all of 1, and some of the others", three(), give(2, 1, 2, 1), 2, 0, api.OK},
		{"all of 1 and 0", three(), give(1, 1, 1, 0), 2, 0, api.OK},
		{"example 2", three(), give(1, 0, 1, 0), 0, 0, api.ErrNone},
		{"none has some", three(), give(1, 0, 0, 0), 0, 0, api.ErrNone},
		{"none has not all", three(), give(1, 1, 1, 1), 0, 0, api.ErrNone},
		{"the first of several pairs", several, give(1, 0, 1, 0, 1), 0, 1, api.OK},
		{"the first one has all parts", several, give(1, 1, 1, 0, 1), 2, 1, api.OK},
		{"the second one has none", several, give(1, 0, 0, 0, 1), 0, 3, api.OK},
		{"the first one that wastes something stands behind the second one", several, give(1, 1, 1, 1, 0), 3, 1, api.OK},
		{"some parts of the first one, and of another one", several, give(9, 8, 0, 1, 0), 0, 2, api.OK},
		{"all but one part of the most", several, give(2000, 1999, 1, 2000, 0), 0, 1, api.OK},
		{"neither is ahead", land(ours(4, 2), theirs(2, 1)), give(2, 1, 1), 0, 0, api.ErrNone},
		{"neither is ahead, and the later one has all", land(ours(4, 2), theirs(2, 1)), give(1, 0, 1), 0, 0, api.ErrNone},
		{"ahead by a little", land(theirs(999, 998), ours(1000, 999)), give(1, 0, 1), 0, 1, api.OK},
		{"and the other way round", land(theirs(999, 998), ours(1000, 999)), give(1, 1, 0), 0, 0, api.ErrNone},
		{"a better exchange would need more parts than there can be", land(theirs(8, 3), ours(5, 2)), give(2000, 1999, 1), 0, 1, api.OK},
		{"what is bound is no waste", tied(), give(1, 1, 0, 0), 0, 0, api.ErrNone},
		{"nor what is bound to the South", settled(well(1, theirs(9, 1)), ours(1, 9)), give(1, 0, 1), 0, 0, api.ErrNone},
		{"what stands beside it is", settled(well(1, theirs(9, 1)), ours(1, 9), theirs(1, 1)), give(1, 0, 1, 0), 2, 1, api.OK},
	} {
		if more, less, e := barter.Waste(x.l, x.x); more != x.more || less != x.less || e != x.e {
			t.Error(x.what, more, less, e)
		}
	}
}

// P7.3: which prices hold.
func TestHolds(t *testing.T) {
	for _, x := range []struct {
		what         string
		l            barter.Land
		x            barter.Exchange
		north, south int
		want         bool
	}{
		{"example 2", three(), give(1, 0, 1, 0), 1, 1, true},
		{"worths times their numbers are alike: of 1", three(), give(1, 0, 1, 0), 1, 2, true},
		{"the North has not all that is worth more to it", three(), give(1, 0, 1, 0), 2, 1, false},
		{"the North has something that is worth less to it", three(), give(1, 0, 1, 0), 1, 3, false},
		{"alike, of which the North has none", three(), give(1, 0, 1, 0), 20, 20, true},
		{"alike, of which the North has some", three(), give(7, 0, 7, 3), 1, 1, true},
		{"alike, of which the North has all", three(), give(1, 0, 1, 1), 1, 1, true},
		{"not alike, and the North has some", three(), give(7, 0, 7, 3), 2, 1, false},
		{"not alike, and the South has some", three(), give(7, 0, 7, 3), 1, 2, false},
		{"a little more than alike", three(), give(7, 0, 7, 3), 2000, 1999, false},
		{"a little less", three(), give(7, 0, 7, 3), 1999, 2000, false},
		{"alike with the greatest numbers", three(), give(7, 0, 7, 3), 2000, 2000, true},
		{"example 3", three(), give(3, 0, 2, 0), 1, 2, true},
		{"example 3, and another price", three(), give(3, 0, 2, 0), 1, 1, false},
		{"all for the North", three(), give(1, 1, 1, 1), 3, 1, true},
		{"all for the North, and the price says one less", three(), give(1, 1, 1, 1), 29, 10, false},
		{"nothing for the North", three(), give(1, 0, 0, 0), 1, 2, true},
		{"nothing for the North, and the price says one", three(), give(1, 0, 0, 0), 1000, 1999, false},
		{"not best", three(), give(1, 1, 0, 0), 1, 1, false},
		{"what is bound does not count", tied(), give(1, 1, 1, 0), 1, 1, true},
		{"nor by how much", tied(), give(1, 1, 0, 0), 1, 2000, true},
		{"not allowed", tied(), give(1, 0, 1, 0), 1, 1, false},
		{"not allowed by a part", tied(), give(2, 1, 2, 0), 1, 1, false},
		{"all is bound", allBound(), give(1, 1, 0), 1, 2000, true},
		{"all is bound, and one is given away", allBound(), give(1, 1, 1), 1, 1, false},
	} {
		if is, e := barter.Holds(x.l, x.x, x.north, x.south); is != x.want || e != api.OK {
			t.Error(x.what, is, e)
		}
	}
}

// P7.2, P7.3: of small lands, all exchanges tell which ones are better, and all prices which ones hold.
func TestAllExchanges(t *testing.T) {
	r := rand.New(rand.NewSource(3))
	best, fair, forbidden := 0, 0, 0
	for range 1200 {
		l := anyLand(r, 1+r.Intn(3), 3)
		// If a trade of two stretches is better for somebody, one is in which the parts that change hands are so many of
		// as many more parts as worths are great.
		whole := 1 + r.Intn(3)
		x := anyExchange(r, l, whole)
		want := allowedBy(l, x)
		for _, other := range list(1, 2, 3*whole) {
			for _, y := range exchangesBy(l, other) {
				want = want && !betterBy(l, y, x)
			}
		}
		if is, e := barter.Best(l, x); is != want || e != api.OK {
			t.Error(l, x, is, e)
		}
		expectPrices(t, l, x, want)
		n, s := gainedBy(l, x)
		isFair := allowedBy(l, x) && min(n, s) >= 0
		if is, e := barter.Fair(l, x); is != isFair || e != api.OK {
			t.Error(l, x, is, e)
		}
		best, fair, forbidden = best+count(want), fair+count(isFair), forbidden+count(!allowedBy(l, x))
	}
	if min(best, 1200-best, fair, 1200-fair, forbidden+80) < 100 {
		t.Error("too few exchanges of some kind were tried:", best, fair, forbidden)
	}
}

// count is 1 if something is so.
func count(is bool) int {
	if is {
		return 1
	}
	return 0
}

// expectPrices reports prices that hold, or do not, and are told otherwise: some does just if an exchange is best. (P7.5)
func expectPrices(t *testing.T, l barter.Land, x barter.Exchange, isBest bool) {
	t.Helper()
	some := false
	for n := 1; n <= 4; n++ {
		for s := 1; s <= 4; s++ {
			want := heldBy(l, x, n, s)
			some = some || want
			if is, e := barter.Holds(l, x, n, s); is != want || e != api.OK {
				t.Error(l, x, n, s, is, e)
			}
		}
	}
	if some != isBest {
		t.Error("an exchange is best just if a price holds:", l, x, some, isBest)
	}
}

// P7.2, P7.3: of greater lands, too, what both sides have and gain is so; and a waste or a price is told, never both.
func TestGreatLands(t *testing.T) {
	r := rand.New(rand.NewSource(4))
	best, wasted, forbidden := 0, 0, 0
	for n := range 4000 {
		l := greatLand(r)
		x := anyExchange(r, l, list(1, 2, 2000, 1+r.Intn(2000))[r.Intn(4)])
		if n%3 == 0 {
			x, _, _ = pricedExchange(r, l, 1+r.Intn(2000))
		}
		expectSums(t, l, x)
		more, less, isWaste := wastedBy(l, x)
		a, b, e := barter.Waste(l, x)
		is, f := barter.Best(l, x)
		north, south, g := barter.Price(l, x)
		switch {
		case !allowedBy(l, x):
			forbidden++
			if e != api.ErrFalse || is || f != api.OK || g != api.ErrFalse {
				t.Error("not allowed:", l, x, e, is, f, g)
			}
		case isWaste:
			wasted++
			if a != more || b != less || e != api.OK || is || f != api.OK || g != api.ErrFalse {
				t.Error("a waste:", l, x, a, b, e, is, f, g)
			}
		default:
			best++
			if e != api.ErrNone || !is || f != api.OK || g != api.OK || !isPrice(north) || !isPrice(south) || !heldBy(l, x, north, south) {
				t.Error("best:", l, x, e, is, f, north, south, g)
			}
		}
		north, south = 1+r.Intn(barter.MaxPrice), 1+r.Intn(barter.MaxPrice)
		if is, e := barter.Holds(l, x, north, south); is != heldBy(l, x, north, south) || e != api.OK {
			t.Error("a price:", l, x, north, south, is, e)
		}
	}
	if min(best, wasted, forbidden) < 300 {
		t.Error("too few exchanges of some kind were tried:", best, wasted, forbidden)
	}
}

// isPrice reports whether a price can have a number.
func isPrice(n int) bool { return n >= 1 && n <= 2000 }

// expectSums reports what both sides have and gain that is not so.
func expectSums(t *testing.T, l barter.Land, x barter.Exchange) {
	t.Helper()
	wantN, wantS := hadBy(l, x)
	if n, s, e := barter.Has(l, x); n != wantN || s != wantS || e != api.OK {
		t.Error(l, x, n, s, e)
	}
	wantN, wantS = gainedBy(l, x)
	if n, s, e := barter.Gains(l, x); n != wantN || s != wantS || e != api.OK {
		t.Error(l, x, n, s, e)
	}
	if is, e := barter.Fair(l, x); is != (allowedBy(l, x) && wantN >= 0 && wantS >= 0) || e != api.OK {
		t.Error(l, x, is, e)
	}
}

// P7.3: an exchange of the same price, whatever its parts, is best, and its price holds.
func TestPricedExchanges(t *testing.T) {
	r := rand.New(rand.NewSource(5))
	for range 3000 {
		l := greatLand(r)
		x, n, s := pricedExchange(r, l, 1+r.Intn(2000))
		if is, e := barter.Holds(l, x, n, s); !is || e != api.OK {
			t.Error(l, x, n, s, is, e)
		}
		if is, e := barter.Best(l, x); !is || e != api.OK {
			t.Error(l, x, is, e)
		}
		north, south, e := barter.Price(l, x)
		if is, f := barter.Holds(l, x, north, south); !is || e != api.OK || f != api.OK {
			t.Error(l, x, north, south, is, e, f)
		}
	}
}
