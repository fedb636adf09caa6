package barter_test

import (
	"math/rand"
	"slices"
	"testing"

	"limitrophe/api"
	"limitrophe/barter"
)

// evenGain returns the exchange by which both sides gain alike, and what they gain by it.
func evenGain(t *testing.T, l barter.Land) (barter.Exchange, int) {
	t.Helper()
	x, e := barter.Even(l)
	n, s, f := barter.Gains(l, x)
	if e != api.OK || f != api.OK || n != s {
		t.Fatal("no exchange by which both gain alike:", l, x, n, s, e, f)
	}
	return x, n
}

// P7.5, P0.8: there is always an exchange by which both sides gain alike, and no less than nothing; a price proves that it
// is best; and no village loses its water by it.
func TestEvenIsFairAndBest(t *testing.T) {
	r := rand.New(rand.NewSource(8))
	gained, wells := 0, 0
	for range 4000 {
		l := greatLand(r)
		x, gain := evenGain(t, l)
		if gain < 0 {
			t.Error("somebody loses:", l, x, gain)
		}
		if is, e := barter.Fair(l, x); !is || e != api.OK {
			t.Error("not fair:", l, x, is, e)
		}
		if is, e := barter.Best(l, x); !is || e != api.OK {
			t.Error("not best:", l, x, is, e)
		}
		n, s, e := barter.Price(l, x)
		if is, f := barter.Holds(l, x, n, s); !is || !heldBy(l, x, n, s) || e != api.OK || f != api.OK {
			t.Error("no price that holds:", l, x, n, s, is, e, f)
		}
		bound, e := barter.Bound(l)
		for _, stretch := range bound {
			if x.Parts[stretch] != x.Whole*(1-l.Villages[l.Stretches[stretch].Well]) {
				t.Error("a village loses its water:", l, x, stretch)
			}
		}
		expect(t, "what is bound", e, api.OK)
		gained, wells = gained+count(gain > 0), wells+len(bound)
	}
	if min(gained, wells) < 500 {
		t.Error("too few lands of some kind were tried:", gained, wells)
	}
}

// P7.5: no allowed exchange gives both sides more than the one by which they gain alike; and none by which the North gains
// as much as it asks for gives the South more than Most does: all exchanges of small lands.
func TestNoExchangeGivesMore(t *testing.T) {
	r := rand.New(rand.NewSource(9))
	many := 0
	for range 400 {
		l := anyLand(r, 1+r.Intn(3), 5)
		even, gain := evenGain(t, l)
		ask := r.Intn(8) - 3
		most, e := barter.Most(l, ask)
		mostSouth := 0
		if e == api.OK {
			_, mostSouth = gainedBy(l, most)
		}
		for whole := 1; whole <= 8; whole++ {
			for _, x := range exchangesBy(l, whole) {
				many++
				n, s := gainedBy(l, x)
				if min(n, s)*even.Whole > gain*whole {
					t.Error("both gain more:", l, x, even)
				}
				if n < ask*whole {
					continue
				}
				if e != api.OK || s*most.Whole > mostSouth*whole {
					t.Error("the North gains as much, and the South more:", l, ask, x, most, e)
				}
			}
		}
	}
	if many < 50000 {
		t.Error("too few exchanges were tried:", many)
	}
}

// P7.5: nor do exchanges of greater lands, if a price holds for them or not.
func TestNoGreatExchangeGivesMore(t *testing.T) {
	r := rand.New(rand.NewSource(10))
	for range 2000 {
		l := greatLand(r)
		even, gain := evenGain(t, l)
		priced, _, _ := pricedExchange(r, l, 1+r.Intn(2000))
		for _, x := range []barter.Exchange{priced, anyExchange(r, l, 1+r.Intn(2000))} {
			if n, s, e := barter.Gains(l, x); allowedBy(l, x) && min(n, s)*even.Whole > gain*x.Whole || e != api.OK {
				t.Error("both gain more:", l, x, even, e)
			}
		}
	}
}

// P7.3, P7.5: if two stretches are a waste, a trade of parts of them is better: so many parts of each as the other one is
// worth to the South, by which the South has what it had, and the North more.
func TestWasteIsTraded(t *testing.T) {
	r := rand.New(rand.NewSource(11))
	traded := 0
	for range 3000 {
		l := greatLand(r)
		x := anyExchange(r, l, 1+r.Intn(2))
		more, less, e := barter.Waste(l, x)
		if e != api.OK {
			continue
		}
		traded++
		y := give(x.Whole * 1000)
		for _, part := range x.Parts {
			y.Parts = append(y.Parts, part*1000)
		}
		y.Parts[more] += l.Stretches[less].South
		y.Parts[less] -= l.Stretches[more].South
		oldN, oldS, e := barter.Gains(l, x)
		n, s, f := barter.Gains(l, y)
		if n <= oldN*1000 || s != oldS*1000 || !allowedBy(l, y) || e != api.OK || f != api.OK {
			t.Error("a trade is not better:", l, x, y, n, s, e, f)
		}
	}
	if traded < 500 {
		t.Error("too few trades were tried:", traded)
	}
}

// P7.5: who values a stretch of the other side's more gains no less by the exchange by which both gain alike.
func TestWhoValuesMore(t *testing.T) {
	r := rand.New(rand.NewSource(12))
	more := 0
	for range 4000 {
		l := greatLand(r)
		x, gain := evenGain(t, l)
		stretch := r.Intn(len(l.Stretches))
		s := l.Stretches[stretch]
		if s.Owner == south {
			s.North += r.Intn(1001 - s.North)
		} else {
			s.South += r.Intn(1001 - s.South)
		}
		dear := withStretch(l, stretch, s)
		y, dearGain := evenGain(t, dear)
		if dearGain*x.Whole < gain*y.Whole {
			t.Error("who values a stretch more gains less:", l, dear, x, y)
		}
		more += count(dearGain*x.Whole > gain*y.Whole)
	}
	if more < 500 {
		t.Error("too few gains changed:", more)
	}
}

// P7.1, P7.5: which side is called the North makes no difference: if all is turned round, the exchange by which both gain
// alike gives them as much.
func TestTurnedRound(t *testing.T) {
	r := rand.New(rand.NewSource(13))
	for range 2000 {
		l := greatLand(r)
		turned := barter.Land{Villages: slices.Clone(l.Villages)}
		for village, side := range l.Villages {
			turned.Villages[village] = 1 - side
		}
		for _, s := range l.Stretches {
			turned.Stretches = append(turned.Stretches, barter.Stretch{Owner: 1 - s.Owner, North: s.South, South: s.North, Well: s.Well})
		}
		x, gain := evenGain(t, l)
		y, turnedGain := evenGain(t, turned)
		if gain*y.Whole != turnedGain*x.Whole {
			t.Error("one side has more if it is called otherwise:", l, x, y)
		}
	}
}
