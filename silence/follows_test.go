package silence_test

import (
	"math/rand"
	"slices"
	"testing"

	"limitrophe/api"
	"limitrophe/silence"
)

// P11.5, P0.12: who is the owner in some truth is told, with a truth, and of the papers that show its right there are no fewer
// than windows prove.
func TestRightsFollowFromPapers(t *testing.T) {
	r := rand.New(rand.NewSource(21))
	var owned [3]int
	rights := 0
	for range 1500 {
		f := anyFile(r, 10)
		owners, e := silence.Owners(f)
		if e != api.OK || len(owners) == 0 {
			t.Error("nobody is the owner, not even Nobody:", f, owners, e)
		}
		for _, owner := range owners {
			truth, e := silence.Truth(f, owner)
			if e != api.OK {
				t.Error("no truth:", f, owner, e)
			}
			expectOwner(t, f, truth, owner)
			papers, e := silence.Arises(f, truth)
			if e != api.OK || (len(papers) > 0) != (owner != silence.Nobody) {
				t.Error("other rights:", f, truth, owner, papers, e)
			}
			for _, paper := range papers {
				expectShown(t, f, truth, paper)
				rights++
			}
			owned[owner]++
		}
	}
	if min(owned[0], owned[1], owned[2]) < 200 || rights < 600 {
		t.Error("too few owners were told:", owned, rights)
	}
}

// P11.5: in any truth the owner is one of those that are told, and its right arose within the years that are told.
func TestNoTruthHasAnotherOwner(t *testing.T) {
	r := rand.New(rand.NewSource(22))
	var first, last, other int
	for range 3000 {
		f := anyFile(r, 16)
		truth := anyTruth(r, f)
		owner, since := ownerOf(f, truth)
		if owners, e := silence.Owners(f); !slices.Contains(owners, owner) || e != api.OK {
			t.Error("the owner is not told:", f, truth, owner, owners, e)
		}
		if owner == silence.Nobody {
			continue
		}
		years, e := silence.Since(f, owner)
		if since < years.Lo || since > years.Hi || e != api.OK {
			t.Error("the right arose in another year:", f, truth, owner, since, years, e)
		}
		first, last = first+count(since == years.Lo && years.Lo < years.Hi), last+count(since == years.Hi && years.Lo < years.Hi)
		other += count(since > years.Lo && since < years.Hi)
	}
	if min(first, last, other) < 100 {
		t.Error("too few truths were tried:", first, last, other)
	}
}

// narrowed returns a file of which some papers are dated more narrowly.
func narrowed(r *rand.Rand, f silence.File) silence.File {
	f = copied(f)
	for number := range f.Papers {
		if year := &f.Papers[number].Year; r.Intn(2) == 0 {
			year.Lo += r.Intn(year.Hi - year.Lo + 1)
			year.Hi -= r.Intn(year.Hi - year.Lo + 1)
		}
	}
	return f
}

// P11.5: a paper that is dated more narrowly never adds an owner, nor a year in which a right can have arisen.
func TestNarrowerDates(t *testing.T) {
	r := rand.New(rand.NewSource(23))
	fewer, narrower := 0, 0
	for range 4000 {
		f := anyFile(r, 16)
		one := narrowed(r, f)
		was, _ := silence.Owners(f)
		is, e := silence.Owners(one)
		if e != api.OK || slices.ContainsFunc(is, func(owner int) bool { return !slices.Contains(was, owner) }) {
			t.Error("an owner is added:", f, one, was, is, e)
		}
		fewer += count(len(is) < len(was))
		for _, owner := range is {
			if owner == silence.Nobody {
				continue
			}
			wide, _ := silence.Since(f, owner)
			years, e := silence.Since(one, owner)
			if e != api.OK || years.Lo < wide.Lo || years.Hi > wide.Hi {
				t.Error("a year is added:", f, one, owner, wide, years, e)
			}
			narrower += count(years != wide)
		}
	}
	if min(fewer, narrower) < 300 {
		t.Error("too few files were tried:", fewer, narrower)
	}
}

// P11.5: a greater Gap, or fewer Years, never leaves Nobody the owner where a side was.
func TestGreaterGapOrFewerYears(t *testing.T) {
	r := rand.New(rand.NewSource(24))
	owned, gained := 0, 0
	for range 12000 {
		f := anyFile(r, 16)
		truth := anyTruth(r, f)
		easier := f
		if kind := r.Intn(3); kind < 2 {
			easier.Gap = min(200, f.Gap+r.Intn(1+f.Gap/2)+r.Intn(3))
		} else {
			easier.Years = max(1, f.Years-r.Intn(1+f.Years/4)-r.Intn(3))
		}
		was, _ := silence.Owner(f, truth)
		is, e := silence.Owner(easier, truth)
		if e != api.OK || was != silence.Nobody && is == silence.Nobody {
			t.Error("Nobody is left the owner:", f, easier, truth, was, is, e)
		}
		owned += count(was != silence.Nobody && (easier.Gap > f.Gap || easier.Years < f.Years))
		gained += count(was == silence.Nobody && is != silence.Nobody)
	}
	if owned < 2000 || gained < 500 {
		t.Error("too few truths were tried:", owned, gained)
	}
}

// P11.5: rights that arose do not depend on papers behind: without these they arise with the same papers.
func TestPapersBehind(t *testing.T) {
	r := rand.New(rand.NewSource(25))
	kept, lost := 0, 0
	for range 4000 {
		f := anyFile(r, 16)
		truth := anyTruth(r, f)
		papers, _ := silence.Arises(f, truth)
		many := r.Intn(len(truth) + 1)
		shorter := f
		shorter.Papers = f.Papers[:many]
		then, e := silence.Arises(shorter, truth[:many])
		until, _ := slices.BinarySearch(papers, many)
		if !slices.Equal(then, papers[:until]) || e != api.OK {
			t.Error("other rights arise without papers behind:", f, truth, many, papers, then, e)
		}
		kept, lost = kept+count(len(then) > 0 && many < len(truth)), lost+count(len(then) < len(papers))
		for _, paper := range then {
			was, _ := silence.Fewest(f, truth, paper)
			is, e := silence.Fewest(shorter, truth[:many], paper)
			if len(was) != len(is) || e != api.OK {
				t.Error("another number of papers show it:", f, truth, many, paper, was, is, e)
			}
		}
	}
	if min(kept, lost) < 500 {
		t.Error("too few files were tried:", kept, lost)
	}
}

// P11.5: without papers Nobody is the owner, for all Years and Gaps.
func TestNobodyWithoutPapers(t *testing.T) {
	for _, f := range []silence.File{file(1, 1), file(500, 200), file(1, 200), file(500, 1)} {
		owners, e := silence.Owners(f)
		if !slices.Equal(owners, l(silence.Nobody)) || e != api.OK {
			t.Error(f, owners, e)
		}
		owner, e := silence.Owner(f, nil)
		if owner != silence.Nobody || e != api.OK {
			t.Error(f, owner, e)
		}
		truth, e := silence.Truth(f, silence.Nobody)
		if len(truth) > 0 || e != api.OK {
			t.Error(f, truth, e)
		}
	}
}
