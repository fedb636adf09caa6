package sight_test

import (
	"math/rand"
	"slices"
	"testing"

	"limitrophe/api"
	"limitrophe/sight"
)

// Bounds say where a pillar can stand so that all its sights hold: no place is in a region but these (P3.1, P3.2).
func TestBoundsAreThoseOfSights(t *testing.T) {
	r := rand.New(rand.NewSource(2))
	met := [2]int{}
	for range 3000 {
		n := anyNet(r)
		pillar, place := r.Intn(len(n.Pillars)), at(r.Intn(12), r.Intn(12))
		if r.Intn(3) == 0 {
			place = n.Pillars[r.Intn(len(n.Pillars))]
		}
		bounds, e := sight.Bounds(n, pillar)
		expect(t, "Bounds", e, api.OK)
		if !slices.Equal(bounds, boundsOf(n, pillar)) {
			t.Error(n, pillar, bounds)
		}
		there, e := sight.Off(moved(n, pillar, place))
		expect(t, "Off", e, api.OK)
		isOfIt := func(number int) bool { return isOf(n.Sights[number], pillar) }
		isBroken := func(h sight.Bound) bool { return h.A*place.X+h.B*place.Y > h.C }
		if slices.ContainsFunc(there, isOfIt) != slices.ContainsFunc(bounds, isBroken) {
			t.Error(n, pillar, place, there)
		}
		met[min(1, len(there))]++
	}
	if slices.Min(met[:]) < 500 {
		t.Error("too few nets of some kind were tried:", met)
	}
}

// Sights that do not hold are told (P3.1).
func TestOffIsWhatTermsSay(t *testing.T) {
	r := rand.New(rand.NewSource(3))
	for range 3000 {
		n := anyNet(r)
		if got, e := sight.Off(n); !slices.Equal(got, offOf(n)) || e != api.OK {
			t.Error(n, got, e)
		}
	}
}

// A region has the corners, the spans and the reach that all pairs of its bounds tell, and proofs; or none, and a proof
// of that (P3.2, P3.3, P3.4, P0.4).
func TestRegionsOfAnyPillars(t *testing.T) {
	r := rand.New(rand.NewSource(4))
	met := [6]int{} // by how many corners there are
	for range 6000 {
		n := anyNet(r)
		pillar := r.Intn(len(n.Pillars))
		met[min(5, len(expectAll(t, r, n, pillar)))]++
	}
	if slices.Min(met[:]) < 100 {
		t.Error("too few regions of some kind were tried:", met)
	}
}

// The greatest nets are no exception.
func TestRegionsOfGreatNets(t *testing.T) {
	r := rand.New(rand.NewSource(5))
	for range 60 {
		n := greatNet(r)
		expectAll(t, r, n, 0)
		n.Sights[r.Intn(20)] = anySight(r, 10, 50)
		expectAll(t, r, n, r.Intn(10))
	}
}

// expectAll reports what functions answer of a pillar that is not what its bounds tell. It returns the corners.
func expectAll(t *testing.T, r *rand.Rand, n sight.Net, pillar int) []sight.Spot {
	t.Helper()
	bounds := boundsOf(n, pillar)
	want := cornersOf(bounds)
	to := anyWay(r, 1+r.Intn(50))
	a := ask(n, arguments{pillar, to, proof(1, list(0), list(1))})
	if a.besidesErrors() {
		t.Error(n, pillar, a)
	}
	if len(want) == 0 {
		expectNone(t, n, pillar, a)
		return nil
	}
	for _, number := range list(ofCorners, ofBox, ofReach, ofWhy) {
		expect(t, "a function of a region that has a place", a.errors[number], api.OK)
	}
	expect(t, "Clash", a.errors[ofClash], api.ErrNone)
	expect(t, "Loose", a.errors[ofLoose], api.ErrState)
	if len(a.corners) != len(want) {
		t.Fatal(n, pillar, a.corners, want)
	}
	for _, c := range want {
		if !slices.Contains(a.corners, c) {
			t.Error(n, pillar, a.corners, c)
		}
	}
	if !isRound(a.corners) || !isFirst(a.corners[0], want) {
		t.Error("the corners are in another order:", n, pillar, a.corners)
	}
	byX, byY := func(c sight.Spot) api.Ratio { return c.X }, func(c sight.Spot) api.Ratio { return c.Y }
	if a.x != spanOf(want, byX) || a.y != spanOf(want, byY) {
		t.Error(n, pillar, a.x, a.y)
	}
	if farthest := reachOf(want, to); a.ratios[0].D < 1 || exact(a.ratios[0]).Cmp(farthest) != 0 || a.ratios[0].D != int(farthest.Denom().Int64()) {
		t.Error(n, pillar, to, a.ratios[0], farthest)
	}
	expectWhy(t, n, pillar, to, a.ratios[0])
	return want
}

// expectNone reports what functions answer of a region of no place that is not so.
func expectNone(t *testing.T, n sight.Net, pillar int, a answers) {
	t.Helper()
	for _, number := range list(ofCorners, ofBox, ofReach, ofWhy) {
		expect(t, "a function of a region of no place", a.errors[number], api.ErrClash)
	}
	expect(t, "Clash", a.errors[ofClash], api.OK)
	expect(t, "Loose", a.errors[ofLoose], api.OK)
	p := a.proofs[1]
	if !isRefuted(boundsOf(n, pillar), p) || len(p.Bounds) < 2 {
		t.Error(n, pillar, p)
	}
	if is, e := sight.Refutes(n, pillar, p); !is || e != api.OK {
		t.Error(n, pillar, p, is, e)
	}
	if !slices.Equal(a.numbers[1], looseOf(n, pillar)) {
		t.Error(n, pillar, a.numbers[1])
	}
}

// anyProof returns a proof with any bounds of those that there are. Every second one has weights that can be the right
// ones for a direction.
func anyProof(r *rand.Rand, bounds []sight.Bound, to api.Point) sight.Proof {
	numbers := r.Perm(len(bounds))[:1+r.Intn(3)]
	slices.Sort(numbers)
	p := proof(r.Intn(3), numbers, nil)
	for range numbers {
		p.Weights = append(p.Weights, r.Intn(4))
	}
	if len(numbers) == 2 && r.Intn(2) == 0 {
		f, g := bounds[numbers[0]], bounds[numbers[1]]
		p.Times = f.A*g.B - f.B*g.A
		p.Weights = list(to.X*g.B-to.Y*g.A, f.A*to.Y-f.B*to.X)
		if p.Times < 0 {
			p.Times, p.Weights = -p.Times, list(-p.Weights[0], -p.Weights[1])
		}
	}
	if len(numbers) == 3 && r.Intn(2) == 0 {
		f, g, h := bounds[numbers[0]], bounds[numbers[1]], bounds[numbers[2]]
		p.Times = 0
		p.Weights = list(g.A*h.B-g.B*h.A, h.A*f.B-h.B*f.A, f.A*g.B-f.B*g.A)
		if slices.Min(p.Weights) < 0 {
			p.Weights = list(-p.Weights[0], -p.Weights[1], -p.Weights[2])
		}
	}
	return p
}

// Proofs prove what their sums say, and no more: what they prove is true (P3.3, P3.4, P3.6).
func TestProofsAreTrue(t *testing.T) {
	r := rand.New(rand.NewSource(6))
	met := [4]int{}
	for range 20000 {
		n := anyNet(r)
		pillar, to := r.Intn(len(n.Pillars)), anyWay(r, 3)
		if known := clashes(); r.Intn(3) == 0 {
			x := known[r.Intn(len(known))]
			n, pillar = x.n, x.pillar
		}
		bounds := boundsOf(n, pillar)
		p := anyProof(r, bounds, to)
		proved, e := sight.Proves(n, pillar, to, p)
		is, f := sight.Refutes(n, pillar, p)
		if slices.Min(p.Weights) < 0 {
			expect(t, "Proves", e, api.ErrValue)
			expect(t, "Refutes", f, api.ErrValue)
			met[0]++
			continue
		}
		if is != isRefuted(bounds, p) || f != api.OK {
			t.Error(n, pillar, p, is, f)
		}
		if proves := provesThat(bounds, p, to, proved); proves != (e == api.OK) || !proves && e != api.ErrFalse {
			t.Error(n, pillar, to, p, proved, e)
		}
		farthest, g := sight.Reach(n, pillar, to)
		if is && g != api.ErrClash || e == api.OK && g == api.OK && exact(proved).Cmp(exact(farthest)) < 0 {
			t.Error("not true:", n, pillar, to, p, is, proved, farthest)
		}
		switch {
		case is:
			met[1]++
		case e == api.OK:
			met[2]++
		default:
			met[3]++
		}
	}
	if slices.Min(met[:]) < 50 {
		t.Error("too few proofs of some kind were tried:", met)
	}
}

// From sights that hold, where a pillar stands is in its region, and reaches no farther than that (P3.6).
func TestPillarsStandInTheirRegions(t *testing.T) {
	r := rand.New(rand.NewSource(7))
	for range 1000 {
		n := trueNet(r)
		if r.Intn(20) == 0 {
			n = greatNet(r)
		}
		for pillar, place := range n.Pillars {
			to := anyWay(r, 50)
			farthest, e := sight.Reach(n, pillar, to)
			if e != api.OK || (to.X*place.X+to.Y*place.Y)*farthest.D > farthest.N {
				t.Error(n, pillar, to, farthest, e)
			}
			x, y, e := sight.Box(n, pillar)
			if e != api.OK || place.X < x.Lo || place.X > x.Hi || place.Y < y.Lo || place.Y > y.Hi {
				t.Error(n, pillar, x, y, e)
			}
			if _, e := sight.Clash(n, pillar); e != api.ErrNone {
				t.Error(n, pillar, e)
			}
		}
	}
}

// A sight more never makes a region wider (P3.6).
func TestSightsMakeRegionsNarrower(t *testing.T) {
	r := rand.New(rand.NewSource(8))
	narrower := 0
	for range 3000 {
		n := trueNet(r)
		pillar, to := r.Intn(len(n.Pillars)), anyWay(r, 50)
		before, e := sight.Reach(n, pillar, to)
		expect(t, "Reach", e, api.OK)
		after, e := sight.Reach(with(n, anySight(r, len(n.Pillars), 50)), pillar, to)
		if e == api.ErrClash {
			continue
		}
		if e != api.OK || exact(after).Cmp(exact(before)) > 0 {
			t.Error(n, pillar, to, before, after, e)
		}
		if after != before {
			narrower++
		}
	}
	if narrower < 100 {
		t.Error("too few regions became narrower:", narrower)
	}
}

// If one pillar moved, and a sight is off now, it is among those that alone can have moved; and those that have no
// sights never are (P3.5, P3.6).
func TestWhoMovedIsAmongMovers(t *testing.T) {
	r := rand.New(rand.NewSource(9))
	convicted := 0
	for range 3000 {
		n := trueNet(r)
		pillar := r.Intn(len(n.Pillars))
		n = moved(n, pillar, at(r.Intn(12), r.Intn(12)))
		expectMovers(t, n)
		if len(offOf(n)) == 0 {
			continue
		}
		movers, e := sight.Movers(n)
		if !slices.Contains(movers, pillar) || e != api.OK {
			t.Error(n, pillar, movers, e)
		}
		for _, who := range movers {
			if !slices.ContainsFunc(n.Sights, func(s sight.Sight) bool { return isOf(s, who) }) {
				t.Error("has no sights:", n, who)
			}
		}
		if one, e := sight.Convict(n); e == api.OK {
			convicted++
			if one != pillar {
				t.Error(n, pillar, one)
			}
		}
	}
	if convicted < 100 {
		t.Error("too few pillars were convicted:", convicted)
	}
}

// Movers are found by looking at all pillars (P3.5).
func TestMoversOfAnyNets(t *testing.T) {
	r := rand.New(rand.NewSource(10))
	met := [3]int{}
	for range 4000 {
		n := anyNet(r)
		expectMovers(t, n)
		if len(offOf(n)) > 0 {
			met[min(2, len(moversOf(n)))]++
		}
	}
	if slices.Min(met[:]) < 100 {
		t.Error("too few nets of some kind were tried:", met)
	}
}

// expectMovers reports movers, and one that is convicted, that are not those of a net.
func expectMovers(t *testing.T, n sight.Net) {
	t.Helper()
	want, one, e, f := moversOf(n), 0, api.OK, api.OK
	switch {
	case len(offOf(n)) == 0:
		want, e, f = nil, api.ErrState, api.ErrState
	case len(want) == 0:
		f = api.ErrNone
	case len(want) > 1:
		f = api.ErrLarge
	default:
		one = want[0]
	}
	movers, g := sight.Movers(n)
	who, h := sight.Convict(n)
	if !slices.Equal(movers, want) || g != e || who != one || h != f {
		t.Error(n, movers, g, who, h)
	}
}
