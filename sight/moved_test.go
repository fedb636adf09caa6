package sight_test

import (
	"slices"
	"testing"

	"limitrophe/api"
	"limitrophe/sight"
)

func TestOff(t *testing.T) {
	from := func(x, y int) sight.Net { // a pillar 1 that is seen from 0, between the north-east and the north-west
		return sight.Net{Pillars: []api.Point{at(500, 500), at(500+x, 500+y)}, Sights: []sight.Sight{seen(0, 1, 2, 1, -1, 3)}}
	}
	for _, x := range []struct {
		what string
		n    sight.Net
		want []int
	}{
		{"example 1", three(), nil},
		{"example 4", off(), list(1)},
		{"example 5", four(), list(1)},
		{"no sights", net(), nil},
		{"in between", from(1, 2), nil},
		{"in the Right direction", from(400, 200), nil},
		{"to the right of it", from(401, 200), list(0)},
		{"nearly to the right of it", from(399, 200), nil},
		{"in the Left direction", from(-150, 450), nil},
		{"to the left of it", from(-151, 450), list(0)},
		{"nearly to the left of it", from(-149, 450), nil},
		{"behind", from(-1, -2), list(0)},
		{"opposite to Right", from(-2, -1), list(0)},
		{"opposite to Left", from(1, -3), list(0)},
		{"on the right", from(1, -1), list(0)},
		{"on the left", from(-3, 1), list(0)},
		{"the same place", from(0, 0), nil},
		{"as far as can be", sight.Net{Pillars: []api.Point{at(0, 1000), at(1000, 0)}, Sights: []sight.Sight{seen(0, 1, 49, -50, 50, -49), seen(0, 1, 49, -49, 50, -49), seen(0, 1, 50, -49, 50, 50), seen(1, 0, -50, 50, -50, 49)}}, list(2)},
		{"several ones", with(off(), off().Sights...), list(1, 3)},
		{"the other way", with(three(), seen(2, 0, 2, 1, 1, 2), seen(2, 0, -2, -1, -1, -2)), list(2)},
	} {
		got, e := sight.Off(x.n)
		if !slices.Equal(got, x.want) || e != api.OK {
			t.Error(x.what, got, e)
		}
	}
}

// away is a net whose pillar 0 is seen to have moved: no other one is of both sights that are off.
func away() sight.Net {
	return sight.Net{
		Pillars: []api.Point{at(50, 50), at(0, 0), at(100, 0), at(0, 100)},
		Sights:  []sight.Sight{seen(1, 0, 3, 1, 2, 1), seen(0, 2, 2, -1, 3, -1), seen(3, 1, -1, -1, 1, -1)},
	}
}

// cornered is a net in which the pillars 1 and 2 stand at the same place, which all sights between them allow. If the
// pillar 1 alone had moved, it would be both in the west and in the east.
func cornered() sight.Net {
	return sight.Net{
		Pillars: []api.Point{at(0, 0), at(10, 0), at(10, 0)},
		Sights:  []sight.Sight{seen(1, 2, -1, 1, -1, 0), seen(1, 0, 1, 0, 0, 1), seen(2, 1, 0, -1, 1, 0)},
	}
}

func TestMovers(t *testing.T) {
	for _, x := range []struct {
		what string
		n    sight.Net
		who  []int
		one  int
		e, f api.Errno // of Movers, and of Convict
	}{
		{"all sights hold", three(), nil, 0, api.ErrState, api.ErrState},
		{"no sights", net(), nil, 0, api.ErrState, api.ErrState},
		{"example 4", off(), list(1, 2), 0, api.OK, api.ErrLarge},
		{"example 5", four(), list(1), 1, api.OK, api.OK},
		{"the pillar 0", away(), list(0), 0, api.OK, api.OK},
		{"the last pillar", with(net(seen(0, 3, 1, 1, 0, 1)), seen(1, 3, -2, 1, -1, -1), seen(2, 3, 0, 1, -1, -1)), list(3), 3, api.OK, api.OK},
		{"two sights of four pillars", net(seen(0, 1, 0, 1, -1, 0), seen(2, 3, 0, 1, -1, 0)), nil, 0, api.OK, api.ErrNone},
		{"one sight, and a pillar that has none", net(seen(0, 1, 0, 1, -1, 0)), list(0, 1), 0, api.OK, api.ErrLarge},
		{"one that has no place anywhere", with(net(seen(1, 2, 1, 0, 0, 1)), seen(3, 2, -1, -1, 1, -1), seen(1, 2, 1, 1, 0, 1)), nil, 0, api.OK, api.ErrNone},
		{"two at the same place", cornered(), list(0), 0, api.OK, api.OK},
	} {
		who, e := sight.Movers(x.n)
		one, f := sight.Convict(x.n)
		if !slices.Equal(who, x.who) || one != x.one || e != x.e || f != x.f {
			t.Error(x.what, who, e, one, f)
		}
	}
}

// Pillars at the same place agree with every sight between them.
func TestTwoPillarsAtOnePlace(t *testing.T) {
	n := sight.Net{Pillars: []api.Point{at(5, 5), at(5, 5)}}
	for x := -2; x <= 2; x++ {
		for y := -2; y <= 2; y++ {
			if way := at(x, y); way != at(0, 0) {
				n.Sights = append(n.Sights, sight.Sight{From: len(n.Sights) % 2, To: 1 - len(n.Sights)%2, Right: way, Left: at(-y, x)})
			}
		}
	}
	n.Sights = n.Sights[:20]
	got, e := sight.Off(n)
	if len(got) > 0 || e != api.OK {
		t.Error(got, e)
	}
	for pillar := range 2 {
		expectRegion(t, "the place of the other one", n, pillar, spots(spot(5, 5)), span(5, 5), span(5, 5))
	}
}
