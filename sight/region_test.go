package sight_test

import (
	"slices"
	"testing"

	"limitrophe/api"
	"limitrophe/sight"
)

func TestBounds(t *testing.T) {
	far := sight.Net{Pillars: []api.Point{at(1000, 1000), at(0, 0)}, Sights: []sight.Sight{seen(0, 1, 50, -50, 50, 50)}}
	for _, x := range []struct {
		what   string
		n      sight.Net
		pillar int
		want   []sight.Bound // without those of the land
	}{
		{"example 2", three(), 2, []sight.Bound{b(1, -2, 0), b(-2, 1, 0), b(2, 1, 200), b(-1, -2, -100)}},
		{"a sight From the pillar 0", three(), 0, []sight.Bound{b(-1, 2, 60), b(2, -1, 60)}},
		{"a sight From the pillar 1", three(), 1, []sight.Bound{b(-2, -1, -180), b(1, 2, 180)}},
		{"example 4", off(), 1, []sight.Bound{b(0, 1, 60), b(1, -1, 0)}},
		{"example 5", four(), 2, []sight.Bound{b(1, -2, 0), b(-2, 1, 0), b(0, -1, 0), b(-1, 1, -100), b(10, -1, 600), b(-10, -1, -600)}},
		{"sights From it and To it", net(seen(2, 1, 3, 5, -7, 11), seen(1, 2, 3, 5, -7, 11)), 2, []sight.Bound{b(-5, 3, -500), b(11, 7, 1100), b(5, -3, 500), b(-11, -7, -1100)}},
		{"sights of others between them", net(seen(0, 2, 2, 1, 1, 2), seen(0, 1, 1, 0, 0, 1), seen(1, 2, 1, 0, 1, 1)), 2, []sight.Bound{b(1, -2, 0), b(-2, 1, 0), b(0, -1, 0), b(-1, 1, -100)}},
		{"the same sight twice", net(seen(0, 2, 2, 1, 1, 2), seen(0, 2, 2, 1, 1, 2)), 2, []sight.Bound{b(1, -2, 0), b(-2, 1, 0), b(1, -2, 0), b(-2, 1, 0)}},
		{"a sight that is told from the other pillar", net(seen(2, 0, -2, -1, -1, -2)), 2, []sight.Bound{b(1, -2, 0), b(-2, 1, 0)}},
		{"no sights", net(), 1, nil},
		{"sights of others alone", net(seen(0, 1, 1, 0, 0, 1)), 2, nil},
		{"the greatest numbers", far, 1, []sight.Bound{b(-50, -50, -100000), b(-50, 50, 0)}},
		{"the greatest numbers, From the other pillar", far, 0, []sight.Bound{b(50, 50, 0), b(50, -50, 0)}},
	} {
		got, e := sight.Bounds(x.n, x.pillar)
		if !slices.Equal(got, append(x.want, ofLand()...)) || e != api.OK {
			t.Error(x.what, got, e)
		}
	}
}

func TestRegions(t *testing.T) {
	examples := spots(spot(20, 40), spot(50, 25), spot(80, 40), spot(50, 100))
	for _, x := range []struct {
		what    string
		n       sight.Net
		pillar  int
		corners []sight.Spot
		x, y    api.Span
	}{
		{"example 2", three(), 2, examples, span(20, 80), span(25, 100)},
		{"example 4, the pillar 2", off(), 2, spots(spot(200, 100), spot(1000, 500), spot(1000, 900)), span(200, 1000), span(100, 900)},
		{"example 4, the pillar 1", off(), 1, spots(spot(0, 0), spot(60, 60), spot(0, 60)), span(0, 60), span(0, 60)},
		{"no sights", net(), 3, allLand(), span(0, 1000), span(0, 1000)},
		{"sights of others alone", net(seen(0, 1, 0, 1, -1, 0)), 2, allLand(), span(0, 1000), span(0, 1000)},
		{"all the land is seen", net(seen(0, 2, 1, 0, 0, 1)), 2, allLand(), span(0, 1000), span(0, 1000)},
		{"the same sights twice", with(three(), three().Sights...), 2, examples, span(20, 80), span(25, 100)},
		{"sights that are told from the other pillars", net(seen(2, 0, -2, -1, -1, -2), seen(2, 1, 1, -2, 2, -1)), 2, examples, span(20, 80), span(25, 100)},
		{"bounds that are parallel", with(net(three().Sights...), seen(3, 2, -1, 2, -2, 1)), 2, spots(spot(20, 40), broken(140, 3, 80, 3), spot(30, 60)), span(20, 47), span(26, 60)},
		{"fractions", net(seen(0, 2, 3, 1, 2, 1), seen(1, 2, 0, 1, -1, 0)), 2, spots(spot(0, 0), broken(100, 1, 100, 3), spot(100, 50)), span(0, 100), span(0, 50)},
		{"spans that end beside whole numbers", net(seen(0, 2, 3, 1, 1, 3), seen(1, 2, -1, 2, -2, 1)), 2, spots(broken(100, 7, 300, 7), spot(60, 20), broken(600, 7, 200, 7), spot(40, 120)), span(14, 86), span(20, 120)},
		{"two corners with the least X", net(seen(1, 2, -1, 1, -1, 0)), 2, spots(spot(0, 0), spot(100, 0), spot(0, 100)), span(0, 100), span(0, 100)},
		{"an edge from north to south in the west", net(seen(3, 2, 1, 0, 0, 1)), 2, spots(spot(60, 0), spot(1000, 0), spot(1000, 1000), spot(60, 1000)), span(60, 1000), span(0, 1000)},
		{"the land without a corner", net(seen(2, 1, 1, -1, 1, 1)), 1, spots(spot(60, 60), spot(120, 0), spot(1000, 0), spot(1000, 1000)), span(60, 1000), span(0, 1000)},
		{"the south", net(seen(2, 1, -1, 0, 1, -1)), 1, spots(spot(0, 0), spot(120, 0), spot(60, 60), spot(0, 60)), span(0, 120), span(0, 60)},
	} {
		expectRegion(t, x.what, x.n, x.pillar, x.corners, x.x, x.y)
	}
}

func TestRegionsThatAreFlat(t *testing.T) {
	upwards := []sight.Sight{seen(0, 2, 1, 0, 1, 1), seen(0, 2, 1, 1, 0, 1)} // both touch the stretch to the north-east
	for _, x := range []struct {
		what    string
		n       sight.Net
		corners []sight.Spot
		x, y    api.Span
	}{
		{"a stretch along the south", net(seen(0, 2, 0, -1, 1, 0)), spots(spot(0, 0), spot(1000, 0)), span(0, 1000), span(0, 0)},
		{"a stretch along the west", net(seen(0, 2, 0, 1, -1, 0)), spots(spot(0, 0), spot(0, 1000)), span(0, 0), span(0, 1000)},
		{"a stretch across", net(upwards...), spots(spot(0, 0), spot(1000, 1000)), span(0, 1000), span(0, 1000)},
		{"one that is cut at one end", with(net(upwards...), seen(3, 2, 1, 0, 0, 1)), spots(spot(60, 60), spot(1000, 1000)), span(60, 1000), span(60, 1000)},
		{"one that is cut at the other end", with(net(upwards...), seen(3, 2, 0, 1, -1, 0)), spots(spot(0, 0), spot(60, 60)), span(0, 60), span(0, 60)},
		{"one that is cut at both ends", with(net(upwards...), seen(1, 2, -1, 2, -2, 1)), spots(broken(100, 3, 100, 3), broken(200, 3, 200, 3)), span(33, 67), span(33, 67)},
		{"one that falls", net(seen(1, 2, -1, 2, -2, 1), seen(1, 2, -2, 1, -1, 0)), spots(spot(0, 50), spot(100, 0)), span(0, 100), span(0, 50)},
		{"one place, that of the other pillar", net(seen(0, 2, -1, 0, 0, -1)), spots(spot(0, 0)), span(0, 0), span(0, 0)},
		{"one place, in a corner of the land", net(seen(0, 2, -2, 1, -1, -1)), spots(spot(0, 0)), span(0, 0), span(0, 0)},
		{"one place, that of a pillar in the land", net(seen(1, 2, 1, 0, 0, 1), seen(1, 2, -1, 0, 0, -1)), spots(spot(100, 0)), span(100, 100), span(0, 0)},
		{"one place where stretches meet", with(net(upwards...), seen(1, 2, -1, 1, -1, 0), seen(1, 2, 0, 1, -1, 1)), spots(spot(50, 50)), span(50, 50), span(50, 50)},
		{"one place of fractions", with(net(upwards...), seen(1, 2, -1, 2, -1, 0), seen(1, 2, 0, 1, -1, 2)), spots(broken(200, 3, 200, 3)), span(66, 67), span(66, 67)},
		{"one place where two bounds touch", net(seen(3, 2, 0, 1, -1, 1), seen(3, 2, -1, 1, -1, 0), seen(0, 2, 1, 1, 0, 1), seen(0, 2, 1, 0, 1, 1)), spots(spot(30, 30)), span(30, 30), span(30, 30)},
	} {
		expectRegion(t, x.what, x.n, 2, x.corners, x.x, x.y)
	}
}

// expectRegion reports a region that has not the corners and spans wanted.
func expectRegion(t *testing.T, what string, n sight.Net, pillar int, corners []sight.Spot, x, y api.Span) {
	t.Helper()
	got, e := sight.Corners(n, pillar)
	if !slices.Equal(got, corners) || e != api.OK {
		t.Error(what, got, e)
	}
	u, v, e := sight.Box(n, pillar)
	if u != x || v != y || e != api.OK {
		t.Error(what, u, v, e)
	}
}

func TestRegionsOfNoPlace(t *testing.T) {
	for _, x := range []struct {
		what   string
		n      sight.Net
		pillar int
	}{
		{"example 5", four(), 2},
		{"bounds that are parallel", net(seen(0, 2, 2, 1, 1, 2), seen(1, 2, -1, -1, 2, 1), seen(3, 2, 2, 1, 1, 2)), 2},
		{"opposite sights", net(seen(0, 1, 1, 0, 0, 1), seen(2, 1, 1, 0, 0, 1), seen(3, 1, -1, 0, 0, -1)), 1},
	} {
		corners, e := sight.Corners(x.n, x.pillar)
		u, v, f := sight.Box(x.n, x.pillar)
		if len(corners) > 0 || e != api.ErrClash || u != (api.Span{}) || v != (api.Span{}) || f != api.ErrClash {
			t.Error(x.what, corners, e, u, v, f)
		}
	}
}
