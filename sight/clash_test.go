package sight_test

import (
	"slices"
	"testing"

	"limitrophe/api"
	"limitrophe/sight"
)

// lost is a net in which the pillar 1 has no place: seen from others it would be both in the north and in the south.
// Each sight from the south is told twice.
func lost() sight.Net {
	return sight.Net{
		Pillars: []api.Point{at(0, 60), at(50, 50), at(0, 40)},
		Sights:  []sight.Sight{seen(0, 1, 1, 0, 0, 1), seen(0, 2, 0, -1, 1, 0), seen(2, 1, 0, -1, 1, 0), seen(1, 2, 0, 1, -1, 0)},
	}
}

// clashes are nets with a pillar that has no place.
func clashes() []struct {
	what   string
	n      sight.Net
	pillar int
	loose  []int
} {
	upwards := net(seen(0, 2, 1, 0, 1, 1), seen(0, 2, 1, 1, 0, 1))
	return []struct {
		what   string
		n      sight.Net
		pillar int
		loose  []int
	}{
		{"example 5", four(), 2, list(1, 2)},
		{"opposite bounds", lost(), 1, list(0)},
		{"the same sights twice", with(four(), four().Sights...), 2, nil},
		{"one of the sights twice", with(four(), four().Sights[1]), 2, list(2)},
		{"a place that is beside a stretch", with(upwards, seen(1, 2, 1, 0, 0, 1), seen(3, 2, -1, 1, -1, 0)), 2, list(2, 3)},
		{"two places", net(seen(1, 2, 1, 0, 0, 1), seen(1, 2, -1, 0, 0, -1), seen(3, 2, 1, 0, 0, 1), seen(3, 2, -1, 0, 0, -1)), 2, list(0, 3)},
		{"a sight of others between them", net(seen(0, 2, 2, 1, 1, 2), seen(0, 1, 1, 0, 0, 1), seen(1, 2, 1, 0, 1, 1), seen(3, 2, 1, 10, -1, 10)), 2, list(2, 3)},
	}
}

func TestClash(t *testing.T) {
	for _, x := range clashes() {
		p, e := sight.Clash(x.n, x.pillar)
		if !isRefuted(boundsOf(x.n, x.pillar), p) || e != api.OK {
			t.Error(x.what, p, e)
		}
		if is, e := sight.Refutes(x.n, x.pillar, p); !is || e != api.OK {
			t.Error(x.what, p, is, e)
		}
	}
}

func TestClashOfRegionsWithPlaces(t *testing.T) {
	for _, x := range []struct {
		n      sight.Net
		pillar int
	}{{three(), 2}, {off(), 1}, {off(), 2}, {four(), 0}, {four(), 3}, {lost(), 0}, {net(), 0}, {net(seen(1, 2, 1, 0, 0, 1), seen(1, 2, -1, 0, 0, -1)), 2}} {
		p, e := sight.Clash(x.n, x.pillar)
		loose, f := sight.Loose(x.n, x.pillar)
		if !isNoProof(p) || e != api.ErrNone || len(loose) > 0 || f != api.ErrState {
			t.Error(x.n, x.pillar, p, e, loose, f)
		}
	}
}

func TestRefutes(t *testing.T) {
	for _, x := range []struct {
		what   string
		n      sight.Net
		pillar int
		p      sight.Proof
		is     bool
		e      api.Errno
	}{
		{"example 5", four(), 2, proof(0, list(2, 3, 4), list(9, 10, 1)), true, api.OK},
		{"twice as much", four(), 2, proof(0, list(2, 3, 4), list(18, 20, 2)), true, api.OK},
		{"the greatest weights", four(), 2, proof(0, list(2, 3, 4), list(900000, 1000000, 100000)), true, api.OK},
		{"two bounds", lost(), 1, proof(0, list(0, 3), list(1, 1)), true, api.OK},
		{"two bounds, and one without weight", lost(), 1, proof(0, list(0, 3, 9), list(2, 2, 0)), true, api.OK},
		{"Times", four(), 2, proof(1, list(2, 3, 4), list(9, 10, 1)), false, api.OK},
		{"too little of the first one", four(), 2, proof(0, list(2, 3, 4), list(8, 10, 1)), false, api.OK},
		{"too little of the second one", four(), 2, proof(0, list(2, 3, 4), list(9, 9, 1)), false, api.OK},
		{"no X, but a Y", four(), 2, proof(0, list(3, 4), list(10, 1)), false, api.OK},
		{"no Y, but an X", lost(), 1, proof(0, list(0, 2, 3), list(1, 1, 1)), false, api.OK},
		{"a sum of nothing", four(), 2, proof(0, list(8, 9), list(0, 0)), false, api.OK},
		{"a sum above 0", four(), 2, proof(0, list(8, 9), list(1, 1)), false, api.OK},
		{"a sum of 0", net(seen(1, 2, 1, 0, 0, 1), seen(1, 2, -1, 0, 0, -1)), 2, proof(0, list(0, 2), list(1, 1)), false, api.OK},
		{"one bound", four(), 2, proof(0, list(3), list(1)), false, api.OK},
		{"the last bound", four(), 2, proof(0, list(9), list(0)), false, api.OK},
		{"one that there is not", four(), 2, proof(0, list(2, 3, 10), list(9, 10, 1)), false, api.ErrArg},
		{"one that another pillar has", four(), 0, proof(0, list(2, 3, 6), list(9, 10, 1)), false, api.ErrArg},
	} {
		is, e := sight.Refutes(x.n, x.pillar, x.p)
		if is != x.is || e != x.e {
			t.Error(x.what, is, e)
		}
	}
}

func TestLoose(t *testing.T) {
	for _, x := range clashes() {
		loose, e := sight.Loose(x.n, x.pillar)
		if !slices.Equal(loose, x.loose) || e != api.OK {
			t.Error(x.what, loose, e)
		}
	}
}
