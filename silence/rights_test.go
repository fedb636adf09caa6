package silence_test

import (
	"math/rand"
	"reflect"
	"slices"
	"testing"

	"limitrophe/api"
	"limitrophe/silence"
)

// chains makes spans of the numbers that two each follow one another.
func chains(numbers ...int) []api.Span {
	var all []api.Span
	for i := 0; i+1 < len(numbers); i += 2 {
		all = append(all, span(numbers[i], numbers[i+1]))
	}
	return all
}

// P11.2: the examples, and files that are easy to see through.
func TestRightsOfFiles(t *testing.T) {
	for _, x := range []struct {
		what   string
		f      silence.File
		truth  []int
		chains []api.Span
		arises []int
		owner  int
	}{
		{"example 1", shown(), nil, chains(0, 4), l(4), silence.North},
		{"example 2", loose(), nil, chains(0, 4), l(4), silence.North},
		{"example 3, of 1730", doubt(), l(1700, 1715, 1730, 1745, 1760), chains(0, 4), l(4), silence.North},
		{"example 3, of 1728", doubt(), l(1700, 1715, 1728, 1745, 1760), chains(0, 2, 3, 4), nil, silence.Nobody},
		{"example 3, of 1729", doubt(), l(1700, 1715, 1729, 1745, 1760), chains(0, 2, 3, 4), nil, silence.Nobody},
		{"example 3, of 1731", doubt(), l(1700, 1715, 1731, 1745, 1760), chains(0, 1, 2, 4), nil, silence.Nobody},
		{"example 4", broken(), nil, chains(0, 2, 3, 3, 4, 5), nil, silence.Nobody},
		{"no papers", file(1, 1), nil, nil, nil, silence.Nobody},
		{"one paper", dated(1, 1, 1700), nil, chains(0, 0), nil, silence.Nobody},
		{"one paper of the South", dated(1, 1, -1700), nil, chains(0, 0), nil, silence.Nobody},
		{"two papers", dated(1, 1, 1700, 1701), nil, chains(0, 1), l(1), silence.North},
		{"two papers of the South", dated(1, 1, -1700, -1701), nil, chains(0, 1), l(1), silence.South},
		{"one of each side", dated(1, 1, 1700, -1701), nil, chains(0, 0, 1, 1), nil, silence.Nobody},
		{"a Gap apart", dated(1, 15, 1700, 1715), nil, chains(0, 1), l(1), silence.North},
		{"a year more than a Gap apart", dated(1, 15, 1700, 1716), nil, chains(0, 0, 1, 1), nil, silence.Nobody},
		{"just Years behind the first one", dated(30, 20, 1700, 1715, 1730), nil, chains(0, 2), l(2), silence.North},
		{"a year less", dated(30, 20, 1700, 1715, 1729), nil, chains(0, 2), nil, silence.Nobody},
		{"Years behind the one ahead alone", dated(15, 20, 1700, 1701, 1716), nil, chains(0, 2), l(2), silence.North},
		{"two papers that are far enough: it arises with the first one", dated(30, 20, 1700, 1715, 1730, 1731), nil, chains(0, 3), l(2), silence.North},
		{"all papers but the first are far enough", dated(1, 20, 1700, 1715, 1730, 1745), nil, chains(0, 3), l(1), silence.North},
		{"long ago, and again far behind that", dated(10, 20, 1700, 1715, 1730, 1745, 1760), nil, chains(0, 4), l(1), silence.North},
		{"the other side ends a chain, and takes none away", dated(15, 20, 1700, 1715, -1720), nil, chains(0, 1, 2, 2), l(1), silence.North},
		{"the other side ends a chain a year too early", dated(15, 20, 1700, 1714, -1715, 1716), nil, chains(0, 1, 2, 2, 3, 3), nil, silence.Nobody},
		{"a gap ends a chain, the other one has not Years", dated(15, 10, 1700, 1710, 1721, 1731), nil, chains(0, 1, 2, 3), nil, silence.Nobody},
		{"again with a later chain, behind a gap", dated(10, 20, 1700, 1715, 1736, 1750), nil, chains(0, 1, 2, 3), l(1, 3), silence.North},
		{"again with a later chain, behind the other side", dated(10, 20, 1700, 1715, -1720, 1736, 1750), nil, chains(0, 1, 2, 2, 3, 4), l(1, 4), silence.North},
		{"the South's is the last one", dated(10, 20, 1700, 1715, -1720, -1735), nil, chains(0, 1, 2, 3), l(1, 3), silence.South},
		{"the North's is the last one", dated(10, 20, -1700, -1715, 1720, 1735), nil, chains(0, 1, 2, 3), l(1, 3), silence.North},
		{"each side's, and then the North's again", dated(10, 20, 1700, 1715, -1720, -1735, 1736, 1746), nil, chains(0, 1, 2, 3, 4, 5), l(1, 3, 5), silence.North},
		{"papers behind a right that is not the last one", dated(10, 20, 1700, 1715, -1720, -1725, -1728), nil, chains(0, 1, 2, 4), l(1), silence.North},
		{"the fewest Years", dated(1, 1, 0, 1, 2), nil, chains(0, 2), l(1), silence.North},
		{"the most Years", dated(500, 200, 0, 200, 400, 500), nil, chains(0, 3), l(3), silence.North},
		{"a year less than the most Years", dated(500, 200, 0, 200, 400, 499), nil, chains(0, 3), nil, silence.Nobody},
		{"the greatest Gap", dated(400, 200, -2600, -2800, -3000), nil, chains(0, 2), l(2), silence.South},
		{"a year more than the greatest Gap", dated(200, 200, 2799, 3000), nil, chains(0, 0, 1, 1), nil, silence.Nobody},
		{"16 papers", yearly(16), nil, chains(0, 15), l(1), silence.North},
	} {
		truth := x.truth
		if truth == nil {
			truth = first(x.f)
		}
		a := ask(arguments{f: x.f, truth: truth})
		if !slices.Equal(a.chains, x.chains) || a.errors[ofChains] != api.OK {
			t.Error(x.what, "chains:", a.chains, a.errors[ofChains])
		}
		if !slices.Equal(a.arises, x.arises) || a.errors[ofArises] != api.OK {
			t.Error(x.what, "arises:", a.arises, a.errors[ofArises])
		}
		if a.owner != x.owner || a.errors[ofOwner] != api.OK {
			t.Error(x.what, "owner:", a.owner, a.errors[ofOwner])
		}
	}
}

// P11.2: chains, rights and owners are those that the words say, in truths of all kinds.
func TestRightsOfAnyTruths(t *testing.T) {
	r := rand.New(rand.NewSource(1))
	var owned [3]int
	var rights, cut, exact int
	for range 12000 {
		f := anyFile(r, 16)
		truth := anyTruth(r, f)
		is, e := silence.Holds(f, truth)
		all, errorOfChains := silence.Chains(f, truth)
		papers, errorOfArises := silence.Arises(f, truth)
		got, errorOfOwner := silence.Owner(f, truth)
		owner, _ := ownerOf(f, truth)
		if !is || !slices.Equal(all, chainsOf(f, truth)) || !slices.Equal(papers, arisesOf(f, truth)) || got != owner {
			t.Error("not what the words say:", f, truth, is, all, papers, got)
		}
		if max(e, errorOfChains, errorOfArises, errorOfOwner) != api.OK {
			t.Error("an error:", f, truth, e, errorOfChains, errorOfArises, errorOfOwner)
		}
		owned[owner]++
		rights += count(len(papers) > 1)
		for _, chain := range all[:max(0, len(all)-1)] {
			cut += count(truth[chain.Hi+1]-truth[chain.Hi] == f.Gap+1)
		}
		for _, paper := range papers {
			exact += count(truth[paper]-truth[chainOf(f, truth, paper).Lo] == f.Years)
		}
	}
	if min(owned[0], owned[1], owned[2], rights, cut, exact) < 1000 {
		t.Error("too few truths of some kind were tried:", owned, rights, cut, exact)
	}
}

// P11.1: any years are a truth if each is of its paper's span.
func TestAnyYears(t *testing.T) {
	r := rand.New(rand.NewSource(2))
	var hold, fail int
	for range 4000 {
		f := anyFile(r, 5)
		truth := anyTruth(r, f)
		for range r.Intn(3) * min(1, len(truth)) {
			truth[r.Intn(len(truth))] += r.Intn(3) - 1
		}
		within := slices.ContainsFunc(truthsOf(f), func(other []int) bool { return slices.Equal(truth, other) })
		if is, e := silence.Holds(f, truth); is != within || e != api.OK {
			t.Error("not what the words say:", f, truth, is, within, e)
		}
		hold, fail = hold+count(within), fail+count(!within)
		a := ask(arguments{f: f, truth: truth})
		if want := []api.Errno{api.OK, api.ErrFalse}[count(!within)]; !reflect.DeepEqual(a.errors[ofChains:ofOwner+1], []api.Errno{want, want, want}) {
			t.Error("another error:", f, truth, a)
		}
	}
	if min(hold, fail) < 500 {
		t.Error("too few years of some kind were tried:", hold, fail)
	}
}
