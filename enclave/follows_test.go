package enclave_test

import (
	"math/rand"
	"slices"
	"testing"

	"limitrophe/api"
	"limitrophe/enclave"
)

// charted returns what is told of a map: the region of each plot, the one around each region, and depths.
func charted(t *testing.T, m enclave.Map) (regions, around, depths []int) {
	t.Helper()
	regions, e := enclave.Regions(m)
	around, f := enclave.Around(m)
	depths, g := enclave.Depths(m)
	if e != api.OK || f != api.OK || g != api.OK || len(around) != many(regions) || len(depths) != len(around) {
		t.Fatal(m, regions, around, depths, e, f, g)
	}
	return regions, around, depths
}

// followed returns a map of some kind.
func followed(r *rand.Rand) enclave.Map {
	if r.Intn(4) == 0 {
		return anyRings(r)
	}
	return anyMap(r, 100)
}

// P8.6, P0.9: a region that is not within another one has a way out without it; an enclave is within the one around it, and
// not within one inside it; and it is by 1 deeper.
func TestDepthsFollow(t *testing.T) {
	r := rand.New(rand.NewSource(11))
	enclaves, outs := 0, 0
	for range 1000 {
		m := followed(r)
		_, around, depths := charted(t, m)
		for region, outer := range around {
			if outer == none {
				if depths[region] != 0 {
					t.Error("nothing around, but deep:", m, region)
				}
				continue
			}
			enclaves++
			if depths[region] != depths[outer]+1 {
				t.Error("another depth:", m, region)
			}
			if _, e := enclave.Out(m, outer, region); e != api.OK {
				t.Error("two lie within each other:", m, region, outer)
			}
		}
		region := r.Intn(len(around))
		chain := list() // the one around it, the one around that, and so on
		for outer := around[region]; outer != none; outer = around[outer] {
			chain = append(chain, outer)
		}
		for without := range around {
			if without == region {
				continue
			}
			way, e := enclave.Out(m, region, without)
			if slices.Contains(chain, without) {
				expect(t, "a way out of what is around", e, api.ErrNone)
				continue
			}
			outs++
			if is, f := enclave.Leads(m, region, without, way); !is || e != api.OK || f != api.OK {
				t.Error("no way out:", m, region, without, way, e, f)
			}
		}
	}
	if min(enclaves, outs) < 800 {
		t.Error("too few regions of some kind were tried:", enclaves, outs)
	}
}

// P8.6, P0.9: each plot is in one region of one state; neighbours of one state are in the same one.
func TestEachPlotIsInOneRegion(t *testing.T) {
	r := rand.New(rand.NewSource(12))
	for range 600 {
		m := followed(r)
		regions, _, _ := charted(t, m)
		firsts := map[int]int{}
		for plot, region := range regions {
			first, is := firsts[region]
			if !is {
				if region != len(firsts) {
					t.Error("not numbered by first plots:", m, regions)
				}
				firsts[region], first = plot, plot
			}
			if m.Owners[first] != m.Owners[plot] {
				t.Error("a region of two states:", m, regions)
			}
			for _, next := range list(plot+1, plot+m.Wide) {
				if next < len(regions) && apart(m.Wide, plot, next) == 1 && (m.Owners[plot] == m.Owners[next]) != (region == regions[next]) {
					t.Error("neighbours of one state in two regions, or of two in one:", m, plot, next)
				}
			}
		}
	}
}

// P8.6: deeds, one after the other, of outermost enclaves, end with the map that Clear returns, whichever comes first.
func TestDeedsEndWithClear(t *testing.T) {
	r := rand.New(rand.NewSource(13))
	longest, deepest := 0, 0
	for range 600 {
		m := followed(r)
		want, plots, e := enclave.Clear(m)
		expect(t, "a map that is cleared", e, api.OK)
		now := m
		for deeds := 0; ; deeds++ {
			_, _, depths := charted(t, now)
			var outermost []int
			for region, depth := range depths {
				deepest = max(deepest, depth)
				if depth == 1 {
					outermost = append(outermost, region)
				}
			}
			if len(outermost) == 0 {
				longest = max(longest, deeds)
				break
			}
			if deeds > 100 {
				t.Fatal("deeds without an end:", m)
			}
			now, e = enclave.Give(now, outermost[r.Intn(len(outermost))])
			expect(t, "a deed", e, api.OK)
		}
		if !sameMap(now, want) || !slices.Equal(plots, differing(m, want)) {
			t.Error("another map:", m, now, want, plots)
		}
		if again, none, e := enclave.Clear(want); !sameMap(again, want) || len(none) > 0 || e != api.OK {
			t.Error("a map that is cleared is cleared again:", want, again, none, e)
		}
	}
	if longest < 8 || deepest < 4 {
		t.Error("too few deeds one after the other, or no deep enclaves:", longest, deepest)
	}
}

// someDivision returns a division of a land.
func someDivision(r *rand.Rand, l enclave.Land) []int {
	owners := slices.Clone(l.Owners)
	for plot, owner := range owners {
		if owner == none {
			owners[plot] = r.Intn(2)
		}
	}
	return owners
}

// P8.6, P0.9: a border is drawn with the fewest cuts, as walks prove: no division cuts fewer houses, and none that differs
// by one plot from the one that is told.
func TestWalksProveTheFewest(t *testing.T) {
	r := rand.New(rand.NewSource(14))
	great := 0
	for range 1500 {
		l := greatLand(r)
		owners, cut := drawn(t, l)
		great = max(great, cut)
		for range 10 {
			if n, e := enclave.Cost(l, someDivision(r, l)); n < cut || e != api.OK {
				t.Error("a division cuts fewer:", l, n, cut, e)
			}
		}
		for plot, owner := range l.Owners {
			if owner != none {
				continue
			}
			owners[plot] = 1 - owners[plot]
			if n, e := enclave.Cost(l, owners); n < cut || e != api.OK {
				t.Error("a division that differs by one plot cuts fewer:", l, plot, n, cut, e)
			}
			owners[plot] = 1 - owners[plot]
		}
	}
	if great < 20000 {
		t.Error("no division cut many houses:", great)
	}
}

// P8.6: with more houses no division cuts fewer.
func TestMoreHouses(t *testing.T) {
	r := rand.New(rand.NewSource(15))
	more, same := 0, 0
	for range 1500 {
		l := greatLand(r)
		_, cut := drawn(t, l)
		walks, e := enclave.Walks(l)
		expect(t, "walks", e, api.OK)
		for range 1 + r.Intn(5) {
			plot := r.Intn(len(l.Owners))
			if plot%l.Wide+1 < l.Wide {
				l.East[plot] += r.Intn(1001 - l.East[plot])
			}
			if plot+l.Wide < len(l.Owners) {
				l.South[plot] += r.Intn(1001 - l.South[plot])
			}
		}
		_, then := drawn(t, l)
		if n, e := enclave.Proves(l, walks); then < cut || n != cut || e != api.OK {
			t.Error("fewer are cut, or walks are none any more:", l, cut, then, n, e)
		}
		more, same = more+count(then > cut), same+count(then == cut)
	}
	if min(more, same) < 200 {
		t.Error("too few lands of some kind were tried:", more, same)
	}
}
