package sight_test

import (
	"testing"

	"limitrophe/api"
	"limitrophe/sight"
)

func TestReach(t *testing.T) {
	slanting := net(seen(0, 2, 3, 1, 2, 1), seen(1, 2, 0, 1, -1, 0)) // to 0, 0; 100, 100 by 3; and 100, 50
	beside := net(seen(0, 2, 3, 1, 1, 3), seen(1, 2, -1, 2, -2, 1))  // to 100, 300 and 600, 200 by 7; 60, 20; and 40, 120
	stretch := net(seen(0, 2, 1, 0, 1, 1), seen(0, 2, 1, 1, 0, 1), seen(3, 2, 0, 1, -1, 0))
	place := net(seen(1, 2, 1, 0, 0, 1), seen(1, 2, -1, 0, 0, -1))
	for _, x := range []struct {
		what   string
		n      sight.Net
		pillar int
		to     api.Point
		want   api.Ratio
	}{
		{"example 3, to the east", three(), 2, at(1, 0), r(80, 1)},
		{"example 3, to the north", three(), 2, at(0, 1), r(100, 1)},
		{"to the west", three(), 2, at(-1, 0), r(-20, 1)},
		{"to the south", three(), 2, at(0, -1), r(-25, 1)},
		{"to two corners", three(), 2, at(2, 1), r(200, 1)},
		{"twice as far", three(), 2, at(4, 2), r(400, 1)},
		{"back", three(), 2, at(-3, -3), r(-180, 1)},
		{"the greatest direction", three(), 2, at(50, -50), r(2000, 1)},
		{"the other way", three(), 2, at(-50, 50), r(2500, 1)},
		{"a fraction", slanting, 2, at(1, -2), r(100, 3)},
		{"a fraction below 0", beside, 2, at(-1, 0), r(-100, 7)},
		{"another one", beside, 2, at(-2, -3), r(-1100, 7)},
		{"fractions that make a whole number", beside, 2, at(1, 2), r(280, 1)},
		{"a fraction in lowest terms", beside, 2, at(7, 0), r(600, 1)},
		{"fractions that are 0 together", slanting, 2, at(2, -6), r(0, 1)},
		{"along a bound", slanting, 2, at(3, 1), r(350, 1)},
		{"no sights", net(), 0, at(50, 50), r(100000, 1)},
		{"nothing", net(), 0, at(-1, -1), r(0, 1)},
		{"across a stretch", stretch, 2, at(1, -1), r(0, 1)},
		{"along a stretch", stretch, 2, at(1, 1), r(120, 1)},
		{"against it", stretch, 2, at(-1, -1), r(0, 1)},
		{"one place", place, 2, at(-7, 3), r(-700, 1)},
	} {
		got, e := sight.Reach(x.n, x.pillar, x.to)
		if got != x.want || e != api.OK {
			t.Error(x.what, got, e)
		}
		expectWhy(t, x.n, x.pillar, x.to, got)
	}
}

// expectWhy reports a proof that does not prove how far a region reaches.
func expectWhy(t *testing.T, n sight.Net, pillar int, to api.Point, farthest api.Ratio) {
	t.Helper()
	why, e := sight.Why(n, pillar, to)
	if !provesThat(boundsOf(n, pillar), why, to, farthest) || e != api.OK {
		t.Error(n, pillar, to, why, e)
	}
	proved, e := sight.Proves(n, pillar, to, why)
	if proved != farthest || e != api.OK {
		t.Error(n, pillar, to, why, proved, e)
	}
}

// Limits of directions are told by all that ask for one, ahead of regions that have no place.
func TestDirections(t *testing.T) {
	for _, x := range []struct {
		n    sight.Net
		to   api.Point
		e, f api.Errno // of Reach and Why, and of Proves
	}{
		{three(), at(50, 50), api.OK, api.ErrFalse},
		{three(), at(-50, -50), api.OK, api.ErrFalse},
		{three(), at(1, 0), api.OK, api.OK},
		{three(), at(51, 0), api.ErrValue, api.ErrValue},
		{three(), at(-51, 0), api.ErrValue, api.ErrValue},
		{three(), at(0, 51), api.ErrValue, api.ErrValue},
		{three(), at(0, -51), api.ErrValue, api.ErrValue},
		{three(), at(0, 0), api.ErrValue, api.ErrValue},
		{four(), at(0, 0), api.ErrValue, api.ErrValue},
		{four(), at(1, 0), api.ErrClash, api.ErrFalse},
	} {
		ratio, e := sight.Reach(x.n, 2, x.to)
		why, f := sight.Why(x.n, 2, x.to)
		_, g := sight.Proves(x.n, 2, x.to, proof(5, list(0, 2), list(1, 2)))
		if e != x.e || f != x.e || g != x.f {
			t.Error(x.to, e, f, g)
		}
		if e != api.OK && (ratio != api.Ratio{} || !isNoProof(why)) {
			t.Error(x.to, ratio, why)
		}
	}
}

func TestProves(t *testing.T) {
	const most = 1000000
	for _, x := range []struct {
		what string
		n    sight.Net
		to   api.Point
		p    sight.Proof
		want api.Ratio
		e    api.Errno
	}{
		{"example 3, to the east", three(), at(1, 0), proof(5, list(0, 2), list(1, 2)), r(80, 1), api.OK},
		{"example 3, to the north", three(), at(0, 1), proof(2, list(1, 2), list(1, 1)), r(100, 1), api.OK},
		{"twice as much", three(), at(1, 0), proof(10, list(0, 2), list(2, 4)), r(80, 1), api.OK},
		{"three bounds", three(), at(1, 0), proof(6, list(0, 2, 4), list(1, 2, 1)), r(700, 3), api.OK},
		{"three bounds, one without weight", three(), at(1, 0), proof(5, list(0, 2, 7), list(1, 2, 0)), r(80, 1), api.OK},
		{"one bound", three(), at(1, 0), proof(1, list(4), list(1)), r(1000, 1), api.OK},
		{"one bound below 0", three(), at(-1, -2), proof(1, list(3), list(1)), r(-100, 1), api.OK},
		{"the greatest weights", three(), at(1, 0), proof(most, list(4), list(most)), r(1000, 1), api.OK},
		{"the greatest weights of two bounds", three(), at(0, 1), proof(most, list(5, 6), list(0, most)), r(1000, 1), api.OK},
		{"a fraction", three(), at(1, 0), proof(3, list(0, 4, 6), list(1, 2, 2)), r(4000, 3), api.OK},
		{"two and two against each other", three(), at(1, 0), proof(1, list(4, 6, 7), list(1, 9, 9)), r(10000, 1), api.OK},
		{"a region of no place", four(), at(0, -1), proof(1, list(2), list(1)), r(0, 1), api.OK},
		{"a fraction below 0", four(), at(-1, 0), proof(11, list(3, 5), list(1, 1)), r(-700, 11), api.OK},
		{"farther than it is", three(), at(1, 0), proof(4, list(0, 2), list(1, 2)), r(0, 0), api.ErrFalse},
		{"not as far", three(), at(1, 0), proof(6, list(0, 2), list(1, 2)), r(0, 0), api.ErrFalse},
		{"no weights", three(), at(1, 0), proof(1, list(0, 2), list(0, 0)), r(0, 0), api.ErrFalse},
		{"no weights at no time", three(), at(1, 0), proof(0, list(0, 2), list(0, 0)), r(0, 0), api.ErrFalse},
		{"what refutes all places", four(), at(1, 0), proof(0, list(2, 3, 4), list(9, 10, 1)), r(0, 0), api.ErrFalse},
		{"another direction", three(), at(1, 1), proof(5, list(0, 2), list(1, 2)), r(0, 0), api.ErrFalse},
		{"the same X", three(), at(1, 1), proof(1, list(4), list(1)), r(0, 0), api.ErrFalse},
		{"the same Y", three(), at(1, 1), proof(1, list(6), list(1)), r(0, 0), api.ErrFalse},
		{"the opposite direction", three(), at(-1, 0), proof(1, list(4), list(1)), r(0, 0), api.ErrFalse},
	} {
		got, e := sight.Proves(x.n, 2, x.to, x.p)
		if got != x.want || e != x.e {
			t.Error(x.what, got, e)
		}
	}
}
