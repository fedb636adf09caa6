package enclave_test

import (
	"math/rand"
	"slices"
	"testing"

	"limitrophe/api"
	"limitrophe/enclave"
)

// P8.1: regions, the one around each, and depths.
func TestRegions(t *testing.T) {
	for _, x := range []struct {
		what    string
		m       string
		regions string // as the map, with numbers of regions for states
		around  []int
		depths  []int
	}{
		{"example 1", ringed, "00000 01110 01210 01110 00000", list(none, 0, 1), list(0, 1, 2)},
		{"example 2: within one region alone, though it touches two others", gapped, "00000 01210 01310 01110 00000", list(none, 0, 0, 0), list(0, 1, 1, 1)},
		{"one plot", "7", "0", list(none), list(0)},
		{"one state", "333 333 333", "000 000 000", list(none), list(0)},
		{"one row", "01102", "01123", list(none, none, none, none), list(0, 0, 0, 0)},
		{"one column", "0 1 1 0", "0 1 1 2", list(none, none, none), list(0, 0, 0)},
		{"two rows", "0101 0011", "0123 0033", list(none, none, none, none), list(0, 0, 0, 0)},
		{"one state in two regions", "010 010", "012 012", list(none, none, none), list(0, 0, 0)},
		{"plots with a corner in common do not hang together", "01 10", "01 23", list(none, none, none, none), list(0, 0, 0, 0)},
		{"a corner lets nobody out", "0111 1011 1101 1110", "0111 2311 2241 2225", list(none, none, none, none, none, none), make([]int, 6)},
		{"a ring with a corner open lets nobody out", "00000 00110 01210 01110 00000", "00000 00110 01210 01110 00000", list(none, 0, 1), list(0, 1, 2)},
		{"a ring with a side open", "00000 01010 01010 01110 00000", "00000 01010 01010 01110 00000", list(none, 0), list(0, 1)},
		{"two regions together around one, both at the rim", "00011 00211 00011", "00011 00211 00011", list(none, none, none), list(0, 0, 0)},
		{"an enclave at the border of two", "00011 00001 00201 00011", "00011 00001 00201 00011", list(none, none, 0), list(0, 0, 1)},
		{"at the rim by a single plot", "00100 01110 01210 01110 00000", "00100 01110 01210 01110 00000", list(none, none, 1), list(0, 0, 1)},
		{"two bays of the one around it", "0000000 0101010 0111110 0000000", "0000000 0101010 0111110 0000000", list(none, 0), list(0, 1)},
		{"two next to each other within one", "0000 0120 0000", "0000 0120 0000", list(none, 0, 0), list(0, 1, 1)},
		{"rings next to each other", "0000000 0111110 0121310 0111110 0000000", "0000000 0111110 0121310 0111110 0000000", list(none, 0, 1, 1), list(0, 1, 2, 2)},
		{"a region whose first plot comes later than one within another", "0000000 0111000 0101020 0111000 0000000", "0000000 0111000 0121030 0111000 0000000",
			list(none, 0, 1, 0), list(0, 1, 2, 1)},
		{"five rings", nested, nested, list(none, 0, 1, 2, 3), list(0, 1, 2, 3, 4)},
	} {
		m := plan(x.m)
		want := plan(x.regions).Owners
		if regions, e := enclave.Regions(m); !slices.Equal(regions, want) || e != api.OK {
			t.Error(x.what, regions, e)
		}
		if around, e := enclave.Around(m); !slices.Equal(around, x.around) || e != api.OK {
			t.Error(x.what, around, e)
		}
		if depths, e := enclave.Depths(m); !slices.Equal(depths, x.depths) || e != api.OK {
			t.Error(x.what, depths, e)
		}
	}
}

// P8.1: 100 regions of one plot each, and numbers of regions beyond 9.
func TestManyRegions(t *testing.T) {
	m := enclave.Map{Wide: 10, Owners: make([]int, 100)}
	ahead := make([]int, 100)
	for plot := range m.Owners {
		m.Owners[plot], ahead[plot] = (plot+plot/10)%2*9, plot
	}
	regions, e := enclave.Regions(m)
	around, f := enclave.Around(m)
	depths, g := enclave.Depths(m)
	if !slices.Equal(regions, ahead) || !slices.Equal(around, slices.Repeat(list(none), 100)) || !slices.Equal(depths, make([]int, 100)) {
		t.Error(regions, around, depths)
	}
	if e != api.OK || f != api.OK || g != api.OK {
		t.Error(e, f, g)
	}
}

// P8.1: regions, the one around each, and depths are those of the terms, word by word.
func TestRegionsOfAnyMaps(t *testing.T) {
	r := rand.New(rand.NewSource(3))
	var deep [6]int
	for i := range 1500 {
		m := anyMap(r, 60)
		if i%10 == 0 {
			m = anyRings(r)
		}
		want := regionsOf(m)
		within := surroundings(m, want)
		if regions, e := enclave.Regions(m); !slices.Equal(regions, want) || e != api.OK {
			t.Error(m, regions, e)
		}
		if around, e := enclave.Around(m); !slices.Equal(around, aroundOf(within)) || e != api.OK {
			t.Error(m, around, e)
		}
		depths, e := enclave.Depths(m)
		expect(t, "depths", e, api.OK)
		if len(depths) != len(within) {
			t.Fatal(m, depths)
		}
		for region, depth := range depths {
			if depth != len(within[region]) {
				t.Error(m, region, depth)
			}
			deep[depth]++
		}
	}
	if slices.Min(deep[:5]) < 10 {
		t.Error("too few regions of some depth were tried:", deep)
	}
}

// P8.2: ways of the chapter's examples, those of a single plot, and those without a region that hangs together with theirs.
func TestOut(t *testing.T) {
	for _, x := range []struct {
		what            string
		m               string
		region, without int
		way             []int // one of the fewest plots, if there is one
	}{
		{"the ring without the middle: one of example 1's ways", "00000 01111 01011 01111 00000", 1, 2, list(9)},
		{"the middle without the ring", gapped, 3, 1, list(12, 7, 2)},
		{"a single plot, at the rim", "01", 1, 0, list(1)},
		{"a single plot, in a corner", "10 00", 0, 1, list(0)},
		{"all are at the rim, and hang together", "01 11", 0, 1, list(0)},
		{"within no other one", "0000 0110 0121 0000", 2, 1, list(10, 11)},
		{"over the one around it alone", "000 010 000", 1, 0, nil},
		{"out by three of four sides", "01000 01010 01210 00010", 4, 0, list(12, 7, 2)},
		{"over two others", "01111 01011 01211 01311", 2, 1, list(7, 12, 17)},
		{"along another one", "11111 11111 10221 11121", 1, 0, list(11, 12, 13, 18)},
	} {
		way, e := enclave.Out(plan(x.m), x.region, x.without)
		switch is, f := enclave.Leads(plan(x.m), x.region, x.without, x.way); {
		case x.way == nil && (e != api.ErrNone || len(way) > 0):
			t.Error("a way where there is none:", x.what, way, e)
		case x.way != nil && (e != api.OK || !is || f != api.OK || len(way) < len(x.way)):
			t.Error("no way, or a wrong one:", x.what, way, e, is, f)
		}
	}
	if is, e := enclave.Leads(plan(ringed), 1, 2, list(6, 1)); !is || e != api.OK {
		t.Error("the way of example 1:", is, e)
	}
}

// P8.2: which lists are ways out.
func TestLeads(t *testing.T) {
	for _, x := range []struct {
		what            string
		region, without int
		way             []int
		is              bool
	}{
		{"over the gap", 3, 1, list(12, 7, 2), true},
		{"over the ring", 3, 2, list(12, 13, 14), true},
		{"through the ring to its end", 3, 2, list(12, 17, 16, 11, 6, 1), true},
		{"on along the rim", 3, 1, list(12, 7, 2, 3, 4, 9), true},
		{"back inside, and out again", 3, 1, list(12, 7, 2, 7, 12, 7, 2), true},
		{"a single plot", 0, 3, list(24), true},
		{"two plots at the rim", 0, 3, list(24, 23), true},
		{"no plot", 3, 1, nil, false},
		{"it does not get out", 3, 1, list(12, 7), false},
		{"it comes back", 3, 1, list(12, 7, 2, 7), false},
		{"a single plot inside", 3, 1, list(12), false},
		{"it begins at another region", 3, 1, list(7, 2), false},
		{"it begins at the rim", 3, 1, list(2, 7, 12, 7, 2), false},
		{"it goes over the one it is without", 3, 2, list(12, 7, 2), false},
		{"it ends on the one it is without", 3, 0, list(12, 7, 2), false},
		{"it begins on the one it is without", 3, 0, list(2), false},
		{"two plots have a corner in common", 3, 1, list(12, 6, 1), false},
		{"it leaves out a plot", 3, 1, list(12, 2), false},
		{"it stays on its plot", 3, 1, list(12, 12, 7, 2), false},
		{"from the end of a row to the start of the next one", 0, 1, list(14, 15), false},
		{"and back", 0, 1, list(15, 14), false},
	} {
		if is, e := enclave.Leads(plan(gapped), x.region, x.without, x.way); is != x.is || e != api.OK {
			t.Error(x.what, is, e)
		}
	}
}

// bend returns a list that is a way but for a change, or with none.
func bend(r *rand.Rand, way []int, plots int) []int {
	way = slices.Clone(way)
	if len(way) == 0 {
		return list(r.Intn(plots))
	}
	i := r.Intn(len(way))
	switch r.Intn(6) {
	case 0:
		way[i] = r.Intn(plots)
	case 1:
		way = way[:i]
	case 2:
		way = way[i:]
	case 3:
		way = slices.Insert(way, i, r.Intn(plots))
	case 4:
		way = append(way, r.Intn(plots))
	}
	return way
}

// P8.2: there is a way just if the terms say so, word by word, and what is told as one is one.
func TestWaysOfAnyMaps(t *testing.T) {
	r := rand.New(rand.NewSource(4))
	var ways, lists [2]int
	for i := range 1500 {
		m := anyMap(r, 50)
		if i%10 == 0 {
			m = anyRings(r)
		}
		regions := regionsOf(m)
		n := many(regions)
		for range 20 {
			region, without := r.Intn(n), r.Intn(n)
			if region == without {
				continue
			}
			way, e := enclave.Out(m, region, without)
			is := hasWayOut(m, regions, region, without)
			ways[count(is)]++
			if is && (e != api.OK || !isWayOut(m, regions, region, without, way)) || !is && (e != api.ErrNone || len(way) > 0) {
				t.Error("no such way, or an error:", m, region, without, way, e)
			}
			bent := bend(r, way, len(regions))
			want := isWayOut(m, regions, region, without, bent)
			lists[count(want)]++
			if leads, e := enclave.Leads(m, region, without, bent); leads != want || e != api.OK {
				t.Error("a way is none, or one that is none is one:", m, region, without, bent, leads, e)
			}
		}
	}
	if min(ways[0], ways[1], lists[0], lists[1]) < 800 {
		t.Error("too few ways of some kind were tried:", ways, lists)
	}
}

// P8.3: deeds, among them those by which regions hang together.
func TestGive(t *testing.T) {
	for _, x := range []struct {
		what   string
		m      string
		region int
		then   string
	}{
		{"the ring of example 1: all hangs together", ringed, 1, "00000 00000 00000 00000 00000"},
		{"the middle of example 1: it hangs together with the ring", ringed, 2, "00000 01110 01110 01110 00000"},
		{"the ring of example 2", gapped, 1, "00000 00200 00000 00000 00000"},
		{"the gap of example 2", gapped, 2, "00000 01010 01010 01110 00000"},
		{"the middle of example 2, which has that state already", gapped, 3, gapped},
		{"one plot", "333 353 333", 1, "333 333 333"},
		{"one of two alike", "00000 01010 00000", 2, "00000 01000 00000"},
		{"two regions of another state hang together behind it", "000000 011110 010210 011110 000000", 2, "000000 011110 011210 011110 000000"},
		{"it goes to the state around it, though it touches another one", "00000 01220 00000", 2, "00000 01000 00000"},
	} {
		before := plan(x.m)
		m, e := enclave.Give(before, x.region)
		if !sameMap(m, plan(x.then)) || e != api.OK || !sameMap(before, plan(x.m)) {
			t.Error(x.what, m, e)
		}
	}
}

// P8.3: maps without enclaves, and the plots that have another owner there.
func TestClear(t *testing.T) {
	for _, x := range []struct {
		what  string
		m     string
		then  string
		plots []int
	}{
		{"example 1", ringed, "00000 00000 00000 00000 00000", list(6, 7, 8, 11, 13, 16, 17, 18)},
		{"example 2", gapped, "00000 00000 00000 00000 00000", list(6, 7, 8, 11, 13, 16, 17, 18)},
		{"no enclave", "0110 0110 2222", "0110 0110 2222", nil},
		{"no enclave, though one is inside", "0000 0120 0122 0000", "0000 0120 0122 0000", nil},
		{"one state", "99 99", "99 99", nil},
		{"one plot", "4", "4", nil},
		{"two states around", "111222 131242 111222", "111222 111222 111222", list(7, 10)},
		{"inside one at the rim", "001111 001021 001111 000000", "001111 001111 001111 000000", list(9, 10)},
	} {
		before := plan(x.m)
		m, plots, e := enclave.Clear(before)
		if !sameMap(m, plan(x.then)) || !slices.Equal(plots, x.plots) || e != api.OK || !sameMap(before, plan(x.m)) {
			t.Error(x.what, m, plots, e)
		}
	}
	m, plots, e := enclave.Clear(plan(nested))
	if !sameMap(m, enclave.Map{Wide: 10, Owners: make([]int, 100)}) || len(plots) != 64 || e != api.OK {
		t.Error("five rings:", m, plots, e)
	}
}

// P8.3: deeds give just the plots of enclaves, to the state around them; and the map without enclaves is so by its words.
func TestDeedsOfAnyMaps(t *testing.T) {
	r := rand.New(rand.NewSource(5))
	deeds, cleared := 0, 0
	for i := range 1500 {
		m := anyMap(r, 50)
		if i%10 == 0 {
			m = anyRings(r)
		}
		regions := regionsOf(m)
		around := aroundOf(surroundings(m, regions))
		for region, outer := range around {
			then, e := enclave.Give(m, region)
			if outer == none {
				expect(t, "no enclave", e, api.ErrState)
				continue
			}
			deeds++
			want := copyMap(m)
			for plot := range want.Owners {
				if regions[plot] == region {
					want.Owners[plot] = m.Owners[slices.Index(regions, outer)]
				}
			}
			if !sameMap(then, want) || e != api.OK {
				t.Error("another map:", m, region, then, e)
			}
		}
		then, plots, e := enclave.Clear(m)
		cleared += count(len(plots) > 0)
		if e != api.OK || !isCleared(m, regions, around, then) {
			t.Error("enclaves, or plots that were to be kept:", m, then, plots, e)
		}
		if !slices.Equal(plots, differing(m, then)) {
			t.Error("other plots:", m, then, plots)
		}
	}
	if min(deeds, cleared) < 300 {
		t.Error("too few deeds were tried:", deeds, cleared)
	}
}

// differing returns the plots that have different owners.
func differing(a, b enclave.Map) []int {
	var plots []int
	for plot, owner := range a.Owners {
		if b.Owners[plot] != owner {
			plots = append(plots, plot)
		}
	}
	return plots
}

// isCleared reports whether no region of another map lies within another one, and all regions at no depth keep their plots.
func isCleared(m enclave.Map, regions, around []int, then enclave.Map) bool {
	if then.Wide != m.Wide || len(then.Owners) != len(m.Owners) {
		return false
	}
	for _, plot := range differing(m, then) {
		if around[regions[plot]] == none {
			return false
		}
	}
	for _, outer := range surroundings(then, regionsOf(then)) {
		if len(outer) > 0 {
			return false
		}
	}
	return true
}

// P8.3: there is just one map without enclaves in which regions at no depth keep their plots: all maps with other owners inside.
func TestClearIsTheOnlyOne(t *testing.T) {
	r := rand.New(rand.NewSource(6))
	several := 0
	for range 120 {
		m := enclave.Map{Wide: 4, Owners: make([]int, 16)}
		for plot := range m.Owners {
			m.Owners[plot] = r.Intn(5) / 4
			if !isRim(m, plot) {
				m.Owners[plot] = r.Intn(3)
			}
		}
		regions := regionsOf(m)
		around := aroundOf(surroundings(m, regions))
		found, _, e := enclave.Clear(m)
		several += count(slices.ContainsFunc(around, func(n int) bool { return n != none }))
		then := copyMap(m)
		for number := range 81 {
			for i, plot := range list(5, 6, 9, 10) {
				then.Owners[plot] = number / list(1, 3, 9, 27)[i] % 3
			}
			if is := isCleared(m, regions, around, then); is != sameMap(then, found) || e != api.OK {
				t.Error("another one, or none:", m, then, found, e)
			}
		}
	}
	if several < 30 {
		t.Error("too few maps had enclaves:", several)
	}
}
