package barter_test

import (
	"math"
	"math/rand"
	"slices"
	"testing"

	"limitrophe/api"
	"limitrophe/barter"
)

// P7.4: the order of free stretches, and the exchange by which both sides gain alike: those of the chapter's examples 1, 3
// and 5, and edge cases.
func TestOrderAndEven(t *testing.T) {
	for _, x := range []struct {
		what  string
		l     barter.Land
		order []int
		even  barter.Exchange
		gain  int
	}{
		{"examples 1 and 3", three(), list(1, 2, 0), give(3, 0, 2, 0), 50},
		{"example 5", tied(), list(1, 2), give(1, 1, 0, 0), 0},
		{"all is bound", allBound(), nil, give(1, 1, 0), 0},
		{"one stretch of the North", land(ours(5, 9)), list(0), give(1, 1), 0},
		{"one stretch of the South", land(theirs(9, 5)), list(0), give(1, 0), 0},
		{"neither is ahead: the first one is the North's", land(ours(5, 5), theirs(5, 5)), list(0, 1), give(1, 1, 0), 0},
		{"neither is ahead: the first one is the South's", land(theirs(5, 5), ours(5, 5)), list(0, 1), give(1, 1, 0), 0},
		{"neither is ahead, with other worths", land(theirs(6, 3), ours(500, 250), theirs(2, 1)), list(0, 1, 2), give(250, 250, 247, 0), 0},
		{"alike in threes", land(ours(1, 3), theirs(4, 2), ours(2, 6), theirs(2, 1)), list(1, 3, 0, 2), give(4, 3, 4, 0, 4), 15},
		{"one for the other", land(ours(1, 8), theirs(8, 1)), list(1, 0), give(1, 0, 1), 7},
		{"the North keeps a part", land(ours(1, 9), theirs(4, 1)), list(1, 0), give(2, 1, 2), 7},
		{"the South keeps a part", land(ours(1, 4), theirs(9, 1)), list(1, 0), give(2, 0, 1), 7},
		{"the greatest Whole", land(ours(999, 1000), theirs(1000, 1000)), list(1, 0), give(2000, 0, 1999), 1000},
		{"all worths at their limits", land(ours(1, 1000), theirs(1000, 1)), list(1, 0), give(1, 0, 1), 999},
		{"ahead by a little", land(ours(999, 998), theirs(1000, 999), ours(998, 997)), list(2, 0, 1), give(1, 1, 0, 1), 0},
		{"nothing for the North to give", land(theirs(9, 1), theirs(1, 9)), list(0, 1), give(1, 0, 0), 0},
		{"nothing for the South to give", land(ours(9, 1), ours(1, 9)), list(0, 1), give(1, 1, 1), 0},
		{"what the South has is bound", settled(well(1, theirs(9, 1)), ours(1, 9), ours(2, 9)), list(2, 1), give(1, 0, 1, 1), 0},
		{"something bound on both sides", settled(well(0, ours(1, 9)), theirs(3, 1), well(1, theirs(9, 1)), ours(1, 3)), list(1, 3), give(1, 1, 1, 0, 0), 2},
		{"16 alike", land(append(slices.Repeat([]barter.Stretch{theirs(2, 2)}, 8), slices.Repeat([]barter.Stretch{ours(1, 1)}, 8)...)...),
			list(0, 1, 2, 3, 4, 5, 6, 7, 8, 9, 10, 11, 12, 13, 14, 15), give(1, 1, 1, 1, 1, 0, 0, 0, 0, 0, 0, 0, 0, 0, 0, 0, 0), 0},
	} {
		if l, e := barter.Order(x.l); !slices.Equal(l, x.order) || e != api.OK {
			t.Error(x.what, l, e)
		}
		even, e := barter.Even(x.l)
		if !same(even, x.even) || e != api.OK {
			t.Error(x.what, even, e)
		}
		if n, s, e := barter.Gains(x.l, even); n != x.gain || s != x.gain || e != api.OK {
			t.Error(x.what, n, s, e)
		}
	}
}

// P7.4: the exchange by which the North gains so much: those of the chapter's example 4, and edge cases.
func TestMost(t *testing.T) {
	given := land(ours(1, 8), theirs(4, 1))
	for _, x := range []struct {
		what string
		l    barter.Land
		gain int
		want barter.Exchange
		e    api.Errno
	}{
		{"example 4: none is cut", three(), 30, give(1, 0, 1, 0), api.OK},
		{"example 4: a stretch is cut", three(), 40, give(2, 0, 2, 1), api.OK},
		{"example 4: more than can be", three(), 61, barter.Exchange{}, api.ErrNone},
		{"just what the North can have", three(), 60, give(1, 1, 1, 1), api.OK},
		{"one less", three(), 59, give(10, 9, 10, 10), api.OK},
		{"a stretch that is cut in halves", three(), 55, give(2, 1, 2, 2), api.OK},
		{"two that are not", three(), 50, give(1, 0, 1, 1), api.OK},
		{"one more than one stretch", three(), 31, give(20, 0, 20, 1), api.OK},
		{"one less", three(), 29, give(40, 0, 39, 0), api.OK},
		{"no gain", three(), 0, give(4, 0, 1, 0), api.OK},
		{"a loss", three(), -5, give(8, 0, 1, 0), api.OK},
		{"all but the greatest loss", three(), -9, give(40, 0, 1, 0), api.OK},
		{"the greatest loss", three(), -10, give(1, 0, 0, 0), api.OK},
		{"more than the greatest loss", three(), -11, give(1, 0, 0, 0), api.OK},
		{"the least gain there is", three(), math.MinInt, give(1, 0, 0, 0), api.OK},
		{"and the next one", three(), math.MinInt + 1, give(1, 0, 0, 0), api.OK},
		{"the greatest gain there is", three(), math.MaxInt, barter.Exchange{}, api.ErrNone},
		{"what is bound is neither given nor got: no gain", tied(), 0, give(1, 1, 0, 0), api.OK},
		{"nor lost", tied(), -1, give(1, 1, 0, 0), api.OK},
		{"a gain beside it", tied(), 10, give(4, 4, 1, 0), api.OK},
		{"all that can be had beside it", tied(), 60, give(1, 1, 1, 1), api.OK},
		{"one more", tied(), 61, barter.Exchange{}, api.ErrNone},
		{"all is bound, and no gain", allBound(), 0, give(1, 1, 0), api.OK},
		{"all is bound, and a loss", allBound(), -7, give(1, 1, 0), api.OK},
		{"all is bound, and a gain", allBound(), 1, barter.Exchange{}, api.ErrNone},
		{"all is given", given, -1, give(1, 0, 0), api.OK},
		{"all but what is ahead", given, 3, give(1, 0, 1), api.OK},
		{"all that is free", given, 4, give(1, 1, 1), api.OK},
		{"more than that", given, 5, barter.Exchange{}, api.ErrNone},
		{"the least part of the greatest worth", land(theirs(1000, 1)), 1, give(1000, 1), api.OK},
		{"all but that", land(theirs(1000, 1)), 999, give(1000, 999), api.OK},
		{"a part in lowest terms", land(theirs(1000, 1)), 750, give(4, 3), api.OK},
		{"neither is ahead: the first one is got", land(theirs(2, 1), theirs(4, 2)), 3, give(4, 4, 1), api.OK},
		{"the most that there can be", land(slices.Repeat([]barter.Stretch{theirs(1000, 1)}, 16)...), 16000, give(1, slices.Repeat(list(1), 16)...), api.OK},
		{"and one more", land(slices.Repeat([]barter.Stretch{theirs(1000, 1)}, 16)...), 16001, barter.Exchange{}, api.ErrNone},
	} {
		if y, e := barter.Most(x.l, x.gain); !same(y, x.want) || e != x.e {
			t.Error(x.what, y, e)
		}
	}
}

// P7.4: of small lands, all exchanges by order tell the one by which the North gains so much, and that by which both sides
// gain alike; of which there is no other one.
func TestAllByOrder(t *testing.T) {
	r := rand.New(rand.NewSource(6))
	none, losses, cut, evenCut := 0, 0, 0, 0
	for range 2000 {
		worth := 1 + r.Intn(9)
		l := anyLand(r, 1+r.Intn(5), worth)
		if order, e := barter.Order(l); !slices.Equal(order, orderBy(l)) || e != api.OK {
			t.Error(l, order, e)
		}
		want, others := evenBy(l, 2*worth)
		if even, e := barter.Even(l); !same(even, want) || others > 0 || e != api.OK {
			t.Error(l, even, e, want, others)
		}
		gain := r.Intn(6*worth) - 3*worth
		most, is := mostBy(l, gain, worth)
		x, e := barter.Most(l, gain)
		if !same(x, most) || is && e != api.OK || !is && e != api.ErrNone {
			t.Error(l, gain, x, e, most)
		}
		none, losses = none+count(!is), losses+count(is && gain < 0)
		cut, evenCut = cut+count(most.Whole > 1), evenCut+count(want.Whole > 1)
	}
	if min(none, losses, cut, evenCut) < 300 {
		t.Error("too few exchanges of some kind were tried:", none, losses, cut, evenCut)
	}
}

// expectByOrder reports an exchange that is none by order, or is not told with the least Whole.
func expectByOrder(t *testing.T, l barter.Land, x barter.Exchange) {
	t.Helper()
	isUsed, least := true, x.Whole
	for _, stretch := range orderBy(l) {
		part := x.Parts[stretch]
		if !isUsed && part > 0 || part < 0 || part > x.Whole {
			t.Error("not by order:", l, x)
		}
		isUsed = isUsed && part == x.Whole
		for least > 1 && (part%least > 0 || x.Whole%least > 0) {
			least--
		}
	}
	if least > 1 || x.Whole < 1 || x.Whole > 2000 || !allowedBy(l, x) {
		t.Error("not told with the least Whole, or not allowed:", l, x)
	}
}

// P7.4: of greater lands, too, the exchanges are by order, the North gains what it asks for, and both gain alike.
func TestGreatOrders(t *testing.T) {
	r := rand.New(rand.NewSource(7))
	none, nothing, cut := 0, 0, 0
	for range 3000 {
		l := greatLand(r)
		order, e := barter.Order(l)
		if !slices.Equal(order, orderBy(l)) || e != api.OK {
			t.Error(l, order, e)
		}
		even, e := barter.Even(l)
		if n, s := gainedBy(l, even); n != s || e != api.OK {
			t.Error(l, even, n, s, e)
		}
		expectByOrder(t, l, even)
		most, least := 0, 0
		for _, stretch := range order {
			if s := l.Stretches[stretch]; s.Owner == north {
				least -= s.North
			} else {
				most += s.North
			}
		}
		gain := least - 20 + r.Intn(most-least+40)
		x, e := barter.Most(l, gain)
		if gain > most {
			none++
			expect(t, "more than the North can have", e, api.ErrNone)
			continue
		}
		if n, _ := gainedBy(l, x); n != max(gain, least)*x.Whole || e != api.OK {
			t.Error(l, gain, x, n, e)
		}
		expectByOrder(t, l, x)
		nothing, cut = nothing+count(gain <= least), cut+count(x.Whole > 1)
	}
	if min(none, nothing, cut) < 100 {
		t.Error("too few exchanges of some kind were tried:", none, nothing, cut)
	}
}
