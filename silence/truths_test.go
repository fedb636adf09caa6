package silence_test

import (
	"math/rand"
	"slices"
	"testing"

	"limitrophe/api"
	"limitrophe/silence"
)

// late is a file of each side's, in which each side may have its right or not: 20 and 21 years are enough, 18 and 19 are not.
func late() silence.File {
	return file(20, 30, of(silence.North, 1700, 1700), of(silence.North, 1718, 1721), of(silence.South, 1750, 1750), of(silence.South, 1769, 1772))
}

// alone is a file in which a side has its right in one truth alone: the papers are a Gap apart in that one, and more in all others.
func alone(side int) silence.File {
	return file(48, 16, of(side, 1700, 1703), of(side, 1719, 1719), of(side, 1735, 1738), of(side, 1751, 1754))
}

// together is a file whose chain is whole only if two papers are of dates that fit together: either both early or both late.
func together() silence.File {
	return file(40, 10, of(0, 1700, 1700), of(0, 1710, 1710), of(0, 1719, 1722), of(0, 1730, 1733), of(0, 1740, 1740))
}

// P11.3: the examples, and files that are easy to see through.
func TestOwnersOfFiles(t *testing.T) {
	for _, x := range []struct {
		what         string
		f            silence.File
		owners       []int
		north, south api.Span // of nothing if there is no such truth
	}{
		{"example 1", shown(), l(0), span(1760, 1760), api.Span{}},
		{"example 2", loose(), l(0), span(1760, 1760), api.Span{}},
		{"example 3", doubt(), l(0, 2), span(1760, 1760), api.Span{}},
		{"example 4", broken(), l(2), api.Span{}, api.Span{}},
		{"no papers", file(5, 5), l(2), api.Span{}, api.Span{}},
		{"one paper", file(1, 1, of(0, 1700, 1703)), l(2), api.Span{}, api.Span{}},
		{"each may have its right", late(), l(0, 1, 2), span(1720, 1721), span(1770, 1772)},
		{"each has its right, the South's is the last one", dated(10, 20, 1700, 1715, -1720, -1735, -1750), l(1), api.Span{}, span(1735, 1735)},
		{"in one truth alone", alone(silence.North), l(0, 2), span(1751, 1751), api.Span{}},
		{"in one truth alone, the South's", alone(silence.South), l(1, 2), api.Span{}, span(1751, 1751)},
		{"whole only together", together(), l(0, 2), span(1740, 1740), api.Span{}},
		{"years of which some between cannot be", file(3, 9, of(0, 10, 13), of(0, 14, 14), of(0, 19, 20)), l(0), span(14, 20), api.Span{}},
		{"again with a later chain", file(10, 20, of(0, 1700, 1700), of(0, 1715, 1715), of(0, 1735, 1738), of(0, 1750, 1750)), l(0), span(1715, 1750), api.Span{}},
		{"with a paper in some truths, and with the next one in others", file(10, 20, of(1, 5, 5), of(1, 13, 16), of(1, 17, 20)), l(1), api.Span{}, span(15, 20)},
		{"a year too few", file(4, 20, of(1, 5, 5), of(1, 6, 8)), l(2), api.Span{}, api.Span{}},
		{"just enough", file(4, 20, of(1, 5, 5), of(1, 6, 9)), l(1, 2), api.Span{}, span(9, 9)},
		{"just enough, if both are dated as far apart as can be", file(8, 20, of(1, 2, 5), of(1, 7, 10)), l(1, 2), api.Span{}, span(10, 10)},
		{"within the Gap only if both are dated as near as can be", file(1, 2, of(1, 2, 5), of(1, 7, 10)), l(1, 2), api.Span{}, span(7, 7)},
		{"just not within the Gap", file(1, 2, of(1, 2, 5), of(1, 8, 10)), l(2), api.Span{}, api.Span{}},
	} {
		owners, e := silence.Owners(x.f)
		if !slices.Equal(owners, x.owners) || e != api.OK {
			t.Error(x.what, "owners:", owners, e)
		}
		for side, want := range []api.Span{x.north, x.south} {
			since, e := silence.Since(x.f, side)
			if since != want || e == api.OK != slices.Contains(x.owners, side) {
				t.Error(x.what, "since:", side, since, e)
			}
		}
		expectOwners(t, x.f, yearsOfTruths(x.f))
	}
}

// The files are of the kind that they are said to be.
func TestKindsOfFiles(t *testing.T) {
	for side := range 2 {
		if y := yearsOfTruths(alone(side)); y.many[side] != 1 {
			t.Error("not in one truth alone:", side, y)
		}
	}
	whole := [4][4]int{}
	for _, truth := range truthsOf(together()) {
		owner, _ := ownerOf(together(), truth)
		whole[truth[2]-1719][truth[3]-1730] += count(owner == silence.North)
	}
	if whole != [4][4]int{1: {1, 0, 0, 0}} {
		t.Error("not whole only together:", whole)
	}
	y := yearsOfTruths(file(3, 9, of(0, 10, 13), of(0, 14, 14), of(0, 19, 20)))
	slices.Sort(y.since[0])
	if between := slices.Compact(y.since[0]); !slices.Equal(between, l(14, 19, 20)) {
		t.Error("other years:", between)
	}
}

// expectOwners reports owners, truths and years that are not those of all truths.
func expectOwners(t *testing.T, f silence.File, y years) {
	t.Helper()
	owners, e := silence.Owners(f)
	if !slices.Equal(owners, y.owners()) || e != api.OK {
		t.Error("other owners:", f, owners, y.many, e)
	}
	for owner := range 3 {
		want := api.ErrNone
		if slices.Contains(y.owners(), owner) {
			want = api.OK
		}
		truth, e := silence.Truth(f, owner)
		if is, _ := silence.Holds(f, truth); e != want || e == api.OK && !is {
			t.Error("not a truth:", f, owner, truth, e)
		} else if e == api.OK {
			expectOwner(t, f, truth, owner)
		}
		if owner == silence.Nobody {
			continue
		}
		since, e := silence.Since(f, owner)
		if e != want || e == api.OK && since != y.span(owner) {
			t.Error("other years:", f, owner, since, e)
		}
	}
}

// expectOwner reports a truth in which the owner is another one.
func expectOwner(t *testing.T, f silence.File, truth []int, owner int) {
	t.Helper()
	is, _ := ownerOf(f, truth)
	got, e := silence.Owner(f, truth)
	if is != owner || got != owner || e != api.OK {
		t.Error("another owner:", f, truth, owner, is, got, e)
	}
}

// P11.3: who can be the owner, and since when, is so in some of all truths, and in no others.
func TestOwnersOfAllTruths(t *testing.T) {
	r := rand.New(rand.NewSource(3))
	var all, one, wide, years int
	for range 8000 {
		f := anyFile(r, 7)
		if manyTruths(f) > 300 {
			continue
		}
		y := yearsOfTruths(f)
		expectOwners(t, f, y)
		all += count(len(y.owners()) > 1)
		one += count(manyTruths(f) > 3 && slices.Contains(y.many[:], 1))
		for side := range 2 {
			if y.many[side] > 0 {
				wide += count(y.span(side).Lo < y.span(side).Hi)
				years += count(y.span(side).Hi-y.span(side).Lo > 3)
			}
		}
	}
	if min(all, wide, years) < 500 || one < 80 {
		t.Error("too few files of some kind were tried:", all, one, wide, years)
	}
}

// P11.3: the same of files of up to all papers, of spans as wide as can be, dated one paper after the other.
func TestOwnersOfAllSteps(t *testing.T) {
	r := rand.New(rand.NewSource(4))
	var three, one, many int
	for range 2500 {
		f := anyFile(r, 16)
		y := yearsOfSteps(f)
		expectOwners(t, f, y)
		three += count(len(y.owners()) == 3)
		one += count(manyTruths(f) > 3 && slices.Contains(y.many[:], 1))
		many += count(manyTruths(f) > 1000000)
	}
	if min(three, many) < 60 || one < 15 {
		t.Error("too few files of some kind were tried:", three, one, many)
	}
}

// What the tests compare with says the same both ways.
func TestStepsAreTruths(t *testing.T) {
	r := rand.New(rand.NewSource(5))
	for range 500 {
		f := anyFile(r, 6)
		if manyTruths(f) > 300 {
			continue
		}
		one, other := yearsOfTruths(f), yearsOfSteps(f)
		if one.many != other.many {
			t.Error("another number of truths:", f, one.many, other.many)
		}
		for side := range 2 {
			if one.many[side] > 0 && one.span(side) != other.span(side) {
				t.Error("other years:", f, side, one.span(side), other.span(side))
			}
		}
	}
}

// widest returns a file of 16 papers of four years each, so far apart, of sides that change after so many papers.
func widest(years, gap, apart, often int) silence.File {
	f := file(years, gap)
	for number := range 16 {
		f.Papers = append(f.Papers, of(number/often%2, number*(4+apart), number*(4+apart)+3))
	}
	return f
}

// P11.3: 16 papers of four years each, of which there are 4294967296 truths.
func TestWidestFiles(t *testing.T) {
	for _, often := range []int{1, 2, 3, 5, 8, 16} {
		for _, apart := range []int{0, 1, 60, 195} {
			for _, gap := range []int{apart + 1, apart + 4, apart + 5} {
				for _, years := range []int{1, 4, apart + 7, min(500, 3*apart+20), min(500, 15*apart+60)} {
					f := widest(years, gap, min(apart, 196), often)
					expectOwners(t, f, yearsOfSteps(f))
				}
			}
		}
	}
}
