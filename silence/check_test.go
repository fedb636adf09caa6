package silence_test

import (
	"math"
	"slices"
	"testing"

	"limitrophe/api"
	"limitrophe/silence"
)

// yearly makes a file of so many papers of the North, one each year, and alike one of papers that are all the same.
func yearly(papers int) silence.File {
	f := file(1, 1)
	for year := range papers {
		f.Papers = append(f.Papers, of(silence.North, year, year))
	}
	return f
}
func alike(papers int, p silence.Paper) silence.File {
	return file(1, 1, slices.Repeat([]silence.Paper{p}, papers)...)
}

// changed returns the file of example 1 but for a change, and dating the same but that the second paper is of other years.
func changed(change func(f *silence.File)) silence.File {
	f := shown()
	change(&f)
	return f
}
func dating(lo, hi int) silence.File {
	return changed(func(f *silence.File) { f.Papers[1].Year = span(lo, hi) })
}

// P11.1: which files are valid, up to each limit and one beyond it. All functions say so first.
func TestErrorsOfFiles(t *testing.T) {
	for _, x := range []struct {
		what string
		f    silence.File
		e    api.Errno
	}{
		{"example 1", shown(), api.OK},
		{"no papers", file(1, 1), api.OK},
		{"one paper", file(1, 1, of(silence.South, 7, 7)), api.OK},
		{"the most Years", changed(func(f *silence.File) { f.Years = 500 }), api.OK},
		{"the fewest Years", changed(func(f *silence.File) { f.Years = 1 }), api.OK},
		{"the greatest Gap", changed(func(f *silence.File) { f.Gap = 200 }), api.OK},
		{"the least Gap", changed(func(f *silence.File) { f.Gap = 1 }), api.OK},
		{"16 papers", yearly(16), api.OK},
		{"the South's", changed(func(f *silence.File) { f.Papers[1].Side = silence.South }), api.OK},
		{"a span of 4 years", dating(1714, 1717), api.OK},
		{"just behind the paper ahead", dating(1701, 1704), api.OK},
		{"just ahead of the paper behind", dating(1726, 1729), api.OK},
		{"the year 0", file(1, 1, of(silence.North, 0, 0)), api.OK},
		{"the first four years", file(1, 1, of(silence.North, 0, 3)), api.OK},
		{"the year 3000", file(1, 1, of(silence.North, 3000, 3000)), api.OK},
		{"the last four years", file(1, 1, of(silence.North, 2997, 3000)), api.OK},
		{"nothing", silence.File{}, api.ErrValue},
		{"no Years", file(0, 1), api.ErrValue},
		{"Years below 0", file(-1, 1), api.ErrValue},
		{"501 Years", file(501, 1), api.ErrValue},
		{"the most Years there are", file(math.MaxInt, 1), api.ErrValue},
		{"the fewest Years there are", file(math.MinInt, 1), api.ErrValue},
		{"no Gap", file(1, 0), api.ErrValue},
		{"a Gap below 0", file(1, -1), api.ErrValue},
		{"a Gap of 201", file(1, 201), api.ErrValue},
		{"the greatest Gap there is", file(1, math.MaxInt), api.ErrValue},
		{"the least Gap there is", file(1, math.MinInt), api.ErrValue},
		{"no Years, and 17 papers", changed(func(f *silence.File) { *f = yearly(17); f.Years = 0 }), api.ErrValue},
		{"no Gap, and 17 papers", changed(func(f *silence.File) { *f = yearly(17); f.Gap = 0 }), api.ErrValue},
		{"17 papers", yearly(17), api.ErrCount},
		{"17 papers of neither side", alike(17, of(2, 7, 7)), api.ErrCount},
		{"17 papers that do not follow one another", alike(17, of(0, 7, 7)), api.ErrCount},
		{"16 papers of neither side", alike(16, of(2, 7, 7)), api.ErrValue},
		{"16 papers that do not follow one another", alike(16, of(0, 7, 7)), api.ErrOrder},
		{"a paper of Nobody", changed(func(f *silence.File) { f.Papers[1].Side = silence.Nobody }), api.ErrValue},
		{"a side below the North", changed(func(f *silence.File) { f.Papers[4].Side = -1 }), api.ErrValue},
		{"the greatest side there is", changed(func(f *silence.File) { f.Papers[0].Side = math.MaxInt }), api.ErrValue},
		{"the least side there is", changed(func(f *silence.File) { f.Papers[0].Side = math.MinInt }), api.ErrValue},
		{"a span that ends before it begins", dating(1716, 1715), api.ErrValue},
		{"a span of 5 years", dating(1714, 1718), api.ErrValue},
		{"a span of all years", file(1, 1, of(0, 0, 3000)), api.ErrValue},
		{"a span of all numbers", file(1, 1, of(0, math.MinInt, math.MaxInt)), api.ErrValue},
		{"a span from the greatest number to the least", file(1, 1, of(0, math.MaxInt, math.MinInt)), api.ErrValue},
		{"a span that overflows", file(1, 1, of(0, 1, math.MinInt)), api.ErrValue},
		{"before the year 0", file(1, 1, of(0, -1, 0)), api.ErrValue},
		{"all before the year 0", file(1, 1, of(0, -2, -1)), api.ErrValue},
		{"the least year there is", file(1, 1, of(0, math.MinInt, math.MinInt)), api.ErrValue},
		{"after the year 3000", file(1, 1, of(0, 3000, 3001)), api.ErrValue},
		{"all after the year 3000", file(1, 1, of(0, 3001, 3001)), api.ErrValue},
		{"the greatest year there is", file(1, 1, of(0, math.MaxInt, math.MaxInt)), api.ErrValue},
		{"spans that touch", dating(1700, 1703), api.ErrOrder},
		{"spans that touch behind", dating(1727, 1730), api.ErrOrder},
		{"a paper ahead of the one ahead", dating(1690, 1690), api.ErrOrder},
		{"a year twice", dating(1700, 1700), api.ErrOrder},
		{"of another side in the same year", file(1, 1, of(0, 7, 7), of(1, 7, 7)), api.ErrOrder},
		{"a span that is none behind the paper ahead", dating(1700, 1699), api.ErrValue},
		{"out of order, then of neither side", changed(func(f *silence.File) { f.Papers[1].Year, f.Papers[2].Side = span(1700, 1700), 2 }), api.ErrOrder},
		{"of neither side, and out of order", changed(func(f *silence.File) { f.Papers[1] = of(2, 1700, 1700) }), api.ErrValue},
		{"of neither side, then out of order", changed(func(f *silence.File) { f.Papers[1].Side, f.Papers[2].Year = 2, span(1700, 1700) }), api.ErrValue},
		{"too wide, and the next one within", changed(func(f *silence.File) { f.Papers[1].Year, f.Papers[2].Year = span(1715, 1719), span(1718, 1718) }), api.ErrValue},
	} {
		a := ask(arguments{f: x.f, truth: append(first(x.f), 7), owner: 3, paper: -1, list: l(-1), windows: l(7, 7)})
		for number, e := range a.errors {
			want := [functions]api.Errno{ofHolds: api.ErrCount, ofChains: api.ErrCount, ofArises: api.ErrCount, ofOwner: api.ErrCount, ofTruth: api.ErrValue,
				ofSince: api.ErrValue, ofFewest: api.ErrCount, ofShows: api.ErrCount, ofWindows: api.ErrCount, ofProves: api.ErrCount}[number]
			if x.e != api.OK {
				want = x.e
			}
			expect(t, x.what, e, want)
		}
		if a.besidesErrors() {
			t.Error(x.what, a)
		}
	}
}

// P11.1, P11.2: which years are a truth, and the error of those that are none, ahead of that of a paper.
func TestErrorsOfTruths(t *testing.T) {
	one := file(1, 1, of(silence.South, 7, 10))
	for _, x := range []struct {
		what  string
		f     silence.File
		truth []int
		is    bool
		e     api.Errno // of Holds
		then  api.Errno // of the others
	}{
		{"the first years", doubt(), l(1700, 1715, 1728, 1745, 1760), true, api.OK, api.OK},
		{"the last years", doubt(), l(1700, 1715, 1731, 1745, 1760), true, api.OK, api.OK},
		{"a year too early", doubt(), l(1700, 1715, 1727, 1745, 1760), false, api.OK, api.ErrFalse},
		{"a year too late", doubt(), l(1700, 1715, 1732, 1745, 1760), false, api.OK, api.ErrFalse},
		{"the first one is too early", doubt(), l(1699, 1715, 1730, 1745, 1760), false, api.OK, api.ErrFalse},
		{"the last one is too late", doubt(), l(1700, 1715, 1730, 1745, 1761), false, api.OK, api.ErrFalse},
		{"the least year there is", one, l(math.MinInt), false, api.OK, api.ErrFalse},
		{"the greatest year there is", one, l(math.MaxInt), false, api.OK, api.ErrFalse},
		{"years that are all wrong", doubt(), l(0, 0, 0, 0, 0), false, api.OK, api.ErrFalse},
		{"a year too few", doubt(), l(1700, 1715, 1730, 1745), false, api.ErrCount, api.ErrCount},
		{"a year too many", doubt(), l(1700, 1715, 1730, 1745, 1760, 1760), false, api.ErrCount, api.ErrCount},
		{"a year too many, and one that is wrong", doubt(), l(1, 1715, 1730, 1745, 1760, 1760), false, api.ErrCount, api.ErrCount},
		{"no years", doubt(), nil, false, api.ErrCount, api.ErrCount},
		{"no years of no papers", file(1, 1), nil, true, api.OK, api.OK},
		{"a year of no papers", file(1, 1), l(0), false, api.ErrCount, api.ErrCount},
		{"the first year of one paper", one, l(7), true, api.OK, api.OK},
		{"the last year of one paper", one, l(10), true, api.OK, api.OK},
		{"a year behind one paper", one, l(11), false, api.OK, api.ErrFalse},
	} {
		a := ask(arguments{f: x.f, truth: x.truth, paper: -1, list: l(-1), windows: l(7, 7)})
		if a.holds != x.is || a.errors[ofHolds] != x.e {
			t.Error(x.what, a.holds, a.errors[ofHolds])
		}
		for _, number := range []int{ofChains, ofArises, ofOwner} {
			expect(t, x.what, a.errors[number], x.then)
		}
		for _, number := range []int{ofFewest, ofShows, ofWindows, ofProves} {
			want := x.then
			if want == api.OK {
				want = api.ErrArg
			}
			expect(t, x.what, a.errors[number], want)
		}
		expect(t, x.what, a.errors[ofOwners], api.OK)
		if a.besidesErrors() {
			t.Error(x.what, a)
		}
	}
}

// P11.3: which owners there are, in the order of errors.
func TestErrorsOfOwners(t *testing.T) {
	for _, x := range []struct {
		what         string
		f            silence.File
		owner        int
		truth, since api.Errno
	}{
		{"one that can be", shown(), silence.North, api.OK, api.OK},
		{"one that cannot be", shown(), silence.South, api.ErrNone, api.ErrNone},
		{"Nobody, who cannot be", shown(), silence.Nobody, api.ErrNone, api.ErrValue},
		{"Nobody, who can be", broken(), silence.Nobody, api.OK, api.ErrValue},
		{"one who could be without the other side", broken(), silence.North, api.ErrNone, api.ErrNone},
		{"Nobody without papers", file(1, 1), silence.Nobody, api.OK, api.ErrValue},
		{"the North without papers", file(1, 1), silence.North, api.ErrNone, api.ErrNone},
		{"the South without papers", file(1, 1), silence.South, api.ErrNone, api.ErrNone},
		{"below the North", shown(), -1, api.ErrValue, api.ErrValue},
		{"beyond Nobody", shown(), 3, api.ErrValue, api.ErrValue},
		{"the least one there is", shown(), math.MinInt, api.ErrValue, api.ErrValue},
		{"the greatest one there is", shown(), math.MaxInt, api.ErrValue, api.ErrValue},
		{"none, without papers", file(1, 1), 3, api.ErrValue, api.ErrValue},
	} {
		a := ask(arguments{f: x.f, owner: x.owner})
		expect(t, x.what, a.errors[ofTruth], x.truth)
		expect(t, x.what, a.errors[ofSince], x.since)
		if a.besidesErrors() {
			t.Error(x.what, a)
		}
	}
}

// P11.4: with which papers a right arises, which papers lists can have, and which years windows, in the order of errors.
func TestErrorsOfShowing(t *testing.T) {
	for _, x := range []struct {
		what          string
		paper         int
		list, windows []int
		e             api.Errno // of Fewest and Windows
		shows, proves api.Errno
	}{
		{"all is well", 4, l(0, 1, 2, 3, 4), l(1700, 1715, 1730), api.OK, api.OK, api.OK},
		{"nothing", 4, nil, nil, api.OK, api.OK, api.OK},
		{"a list of no papers that show it", 4, l(4, 3), l(1700, 1709), api.OK, api.OK, api.ErrFalse},
		{"below the first paper", -1, l(0, 4), l(1700), api.ErrArg, api.ErrArg, api.ErrArg},
		{"beyond the last paper", 5, l(0, 4), l(1700), api.ErrArg, api.ErrArg, api.ErrArg},
		{"the least paper there is", math.MinInt, l(-1), l(1, 1), api.ErrArg, api.ErrArg, api.ErrArg},
		{"the greatest paper there is", math.MaxInt, l(-1), l(1, 1), api.ErrArg, api.ErrArg, api.ErrArg},
		{"the first paper", 0, l(0), nil, api.ErrNone, api.ErrNone, api.ErrNone},
		{"a paper with which none arises", 3, l(0, 3), l(1700), api.ErrNone, api.ErrNone, api.ErrNone},
		{"none arises, and lists are wrong", 3, l(-1), l(1, 1), api.ErrNone, api.ErrNone, api.ErrNone},
		{"the list has a paper below the first one", 4, l(0, -1, 4), nil, api.OK, api.ErrArg, api.OK},
		{"the list has a paper beyond the last one", 4, l(0, 5, 4), nil, api.OK, api.ErrArg, api.OK},
		{"the list has the greatest paper there is", 4, l(0, 4, math.MaxInt), nil, api.OK, api.ErrArg, api.OK},
		{"the list has the least paper there is", 4, l(math.MinInt), nil, api.OK, api.ErrArg, api.OK},
		{"windows of the least year that is allowed", 4, nil, l(1700), api.OK, api.OK, api.OK},
		{"windows just below it", 4, nil, l(1699), api.OK, api.OK, api.ErrValue},
		{"windows just below it, behind which one shares a paper", 4, nil, l(1699, 1701, 1702), api.OK, api.OK, api.ErrValue},
		{"the last window that is allowed has the paper", 4, nil, l(1759), api.OK, api.OK, api.ErrFalse},
		{"a window of the paper's own year", 4, nil, l(1760), api.OK, api.OK, api.ErrValue},
		{"a window behind the paper", 4, nil, l(1700, 1761), api.OK, api.OK, api.ErrValue},
		{"a window twice", 4, nil, l(1700, 1700), api.OK, api.OK, api.ErrOrder},
		{"windows out of order", 4, nil, l(1730, 1700), api.OK, api.OK, api.ErrOrder},
		{"windows out of order, and below", 4, nil, l(1730, 1699), api.OK, api.OK, api.ErrOrder},
		{"windows below, then out of order", 4, nil, l(1699, 1730, 1715), api.OK, api.OK, api.ErrOrder},
		{"the least window there is", 4, nil, l(math.MinInt, 1700), api.OK, api.OK, api.ErrValue},
		{"the greatest window there is", 4, nil, l(1700, math.MaxInt), api.OK, api.OK, api.ErrValue},
		{"windows that share a paper, and one behind", 4, nil, l(1700, 1709, 1760), api.OK, api.OK, api.ErrValue},
	} {
		a := ask(arguments{f: shown(), truth: first(shown()), paper: x.paper, list: x.list, windows: x.windows})
		expect(t, x.what, a.errors[ofFewest], x.e)
		expect(t, x.what, a.errors[ofWindows], x.e)
		expect(t, x.what, a.errors[ofShows], x.shows)
		expect(t, x.what, a.errors[ofProves], x.proves)
		if a.besidesErrors() {
			t.Error(x.what, a)
		}
	}
}
