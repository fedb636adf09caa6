package ridge_test

import (
	"math/rand"
	"slices"
	"testing"

	"limitrophe/api"
	"limitrophe/ridge"
)

// All that is told of a ground is what all its truths and all its ways tell; each ground that is allowed has a crossing,
// and no dry cell (P4.1 to P4.5, P0.5).
func TestAllTruths(t *testing.T) {
	r := rand.New(rand.NewSource(2))
	var met [4]int // cells in doubt, by in how many ways they can drain
	for range 10000 {
		g := smallGround(r, 400)
		want := tell(g)
		expectTold(t, g, want)
		expectProofs(t, g, want.saddle)
		number := 0
		for truth := range truthsOf(g) {
			drains, e := ridge.Drains(g, truth)
			if !slices.Equal(drains, want.drains[number]) || slices.Contains(drains, ridge.Dry) || e != api.OK {
				t.Error(g, truth, drains, e)
			}
			number++
		}
		for _, s := range want.sides {
			met[many(s)]++
		}
		if len(want.crossings) == 0 || want.saddle.Lo == none {
			t.Error("no crossing:", g)
		}
	}
	if slices.Min(met[1:]) < 200 || met[0] > 0 {
		t.Error("too few cells of some kind were tried:", met)
	}
}

// expectTold reports what functions answer that is not what all truths tell.
func expectTold(t *testing.T, g ridge.Ground, want told) {
	t.Helper()
	for sea := 1; sea < 3; sea++ {
		if l, e := ridge.Passes(g, sea); !slices.Equal(l, want.passes[sea]) || e != api.OK {
			t.Error(g, sea, l, e, want.passes[sea])
		}
	}
	if s, e := ridge.Saddle(g); s != want.saddle || e != api.OK {
		t.Error(g, s, e, want.saddle)
	}
	if l, e := ridge.Saddles(g); !slices.Equal(l, want.saddles) || e != api.OK {
		t.Error(g, l, e, want.saddles)
	}
	if l, e := ridge.Sides(g); !slices.Equal(l, want.sides) || e != api.OK {
		t.Error(g, l, e, want.sides)
	}
	if l, e := ridge.Doubt(g); !slices.Equal(l, want.doubt) || e != api.OK {
		t.Error(g, l, e, want.doubt)
	}
}

// What is claimed to be a crossing, or a ridge, is one if the terms say so, and then proves something true (P4.3, P4.5).
func TestProofsAreTrue(t *testing.T) {
	r := rand.New(rand.NewSource(3))
	var crosses, parts [2]int
	for range 4000 {
		g := smallGround(r, 1<<20)
		land := slices.DeleteFunc(r.Perm(len(g.Seas)), func(cell int) bool { return g.Seas[cell] > 0 })
		saddle, e := ridge.Saddle(g)
		expect(t, "Saddle", e, api.OK)
		way := anyWay(r, g, land)
		s, e := ridge.Crosses(g, way)
		if is := isCrossing(g, way); is {
			los, his := endsOf(g)
			if s != span(heightOf(way, los), heightOf(way, his)) || e != api.OK || s.Lo < saddle.Lo || s.Hi < saddle.Hi {
				t.Error(g, way, s, e)
			}
			crosses[1]++
		} else {
			expect(t, "no crossing", e, api.ErrFalse)
			crosses[0]++
		}
		cells := slices.Sorted(slices.Values(land[:r.Intn(len(land)+1)]))
		height := r.Intn(4)
		isHigh := func(cell int) bool { return g.Heights[cell].Lo >= height }
		is, e := ridge.Parts(g, cells, height)
		if want := isMet(g, cells) && !slices.ContainsFunc(cells, func(cell int) bool { return !isHigh(cell) }); is != want || e != api.OK {
			t.Error(g, cells, height, is, e)
		}
		if is {
			if saddle.Lo < height {
				t.Error("is not true:", g, cells, height, saddle)
			}
			parts[1]++
		} else {
			parts[0]++
		}
	}
	if slices.Min(append(crosses[:], parts[:]...)) < 300 {
		t.Error("too few proofs of some kind were tried:", crosses, parts)
	}
}

// anyWay returns land cells each of which but the first mostly is a neighbour of the one before.
func anyWay(r *rand.Rand, g ridge.Ground, land []int) []int {
	way := list(land[0])
	for range r.Intn(6) {
		next := land[r.Intn(len(land))]
		if areNeighbours(g, way[len(way)-1], next) || r.Intn(20) == 0 {
			way = append(way, next)
		}
	}
	return way
}

// Of the greatest grounds, too, what is told holds in any truth (P4.2 to P4.5, P0.5).
func TestGreatGrounds(t *testing.T) {
	r := rand.New(rand.NewSource(4))
	for range 40 {
		g := greatGround(r)
		los, his := endsOf(g)
		for sea := 1; sea < 3; sea++ {
			l, e := ridge.Passes(g, sea)
			expect(t, "Passes", e, api.OK)
			least, most := passesOf(g, los, sea), passesOf(g, his, sea)
			for cell, s := range l {
				if s != span(least[cell], most[cell]) {
					t.Error(g, sea, cell, s)
				}
			}
		}
		saddle, e := ridge.Saddle(g)
		if saddle != span(saddleOf(g, los), saddleOf(g, his)) || e != api.OK {
			t.Error(g, saddle, e)
		}
		expectProofs(t, g, saddle)
		for range 20 {
			expectTruth(t, g, anyTruth(r, g))
		}
	}
}

// expectTruth reports what is told of a ground that does not hold in a truth.
func expectTruth(t *testing.T, g ridge.Ground, truth []int) {
	t.Helper()
	told, e := ridge.Sides(g)
	drains, f := ridge.Drains(g, truth)
	saddle, h := ridge.Saddle(g)
	saddles, k := ridge.Saddles(g)
	if e != api.OK || f != api.OK || h != api.OK || k != api.OK {
		t.Fatal(g, truth, e, f, h, k)
	}
	first, second := passesOf(g, truth, 1), passesOf(g, truth, 2)
	height := saddleOf(g, truth)
	if height < saddle.Lo || height > saddle.Hi {
		t.Error(g, truth, height, saddle)
	}
	for cell, drain := range drains {
		if drain != drainOf(g.Seas[cell], first[cell], second[cell]) {
			t.Error(g, truth, cell, drain)
		}
		s := told[cell]
		if mark(&s, drain); s != told[cell] {
			t.Error("drains as its side does not say:", g, truth, cell, drain)
		}
		isSaddle := g.Seas[cell] == 0 && truth[cell] == height && first[cell] == height && second[cell] == height
		if isSaddle && !slices.Contains(saddles, cell) || !isSaddle && slices.Equal(saddles, list(cell)) {
			t.Error("is a saddle, or is none, though it is told:", g, truth, cell, saddles)
		}
	}
}

// Narrower spans put no other cell in doubt, and let nothing else be so (P4.5).
func TestNarrowerSpans(t *testing.T) {
	r := rand.New(rand.NewSource(5))
	fewer := 0
	for i := range 2000 {
		g := smallGround(r, 1<<20)
		if i%50 == 0 {
			g = greatGround(r)
		}
		before, after := ask(g, arguments{sea: 1}), ask(narrower(r, g), arguments{sea: 1})
		for _, cell := range after.numbers[2] {
			if !slices.Contains(before.numbers[2], cell) {
				t.Error("another cell is in doubt:", g, cell)
			}
		}
		for _, cell := range after.numbers[3] {
			if !slices.Contains(before.numbers[3], cell) {
				t.Error("another cell can be a saddle:", g, cell)
			}
		}
		if after.saddle.Lo < before.saddle.Lo || after.saddle.Hi > before.saddle.Hi {
			t.Error(g, before.saddle, after.saddle)
		}
		if len(after.numbers[2]) < len(before.numbers[2]) {
			fewer++
		}
	}
	if fewer < 300 {
		t.Error("too few grounds with fewer cells in doubt:", fewer)
	}
}

// If one sea and the other are changed, First and Second are, and nothing else (P4.5).
func TestSeasChanged(t *testing.T) {
	r := rand.New(rand.NewSource(6))
	for i := range 2000 {
		g := smallGround(r, 1<<20)
		if i%50 == 0 {
			g = greatGround(r)
		}
		truth := anyTruth(r, g)
		a, b := ask(g, arguments{truth: truth, sea: 1}), ask(otherwise(g), arguments{truth: truth, sea: 2})
		if !slices.Equal(a.passes, b.passes) || a.saddle != b.saddle || !slices.Equal(a.numbers[2], b.numbers[2]) || !slices.Equal(a.numbers[3], b.numbers[3]) || a.errors[ofDrains] != api.OK {
			t.Error(g, truth, a, b)
		}
		for cell, s := range a.sides {
			if b.sides[cell] != (ridge.Side{First: s.Second, Second: s.First, Even: s.Even}) {
				t.Error(g, cell, s, b.sides[cell])
			}
			changed := []ridge.Drain{ridge.Dry, ridge.Second, ridge.First, ridge.Even}
			if b.drains[cell] != changed[a.drains[cell]] {
				t.Error(g, truth, cell, a.drains[cell], b.drains[cell])
			}
		}
		expectProofs(t, otherwise(g), a.saddle)
	}
}
