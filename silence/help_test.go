package silence_test

import (
	"math/rand"
	"slices"
	"testing"

	"limitrophe/api"
	"limitrophe/silence"
)

// span makes a span, and l a list.
func span(lo, hi int) api.Span { return api.Span{Lo: lo, Hi: hi} }
func l(numbers ...int) []int   { return numbers }

// of makes a paper of a side.
func of(side, lo, hi int) silence.Paper { return silence.Paper{Side: side, Year: span(lo, hi)} }

// file makes a file of papers, and dated one of papers of such years, of the North; those below 0 are of the South.
func file(years, gap int, papers ...silence.Paper) silence.File {
	return silence.File{Years: years, Gap: gap, Papers: papers}
}
func dated(years, gap int, numbers ...int) silence.File {
	f := file(years, gap)
	for _, year := range numbers {
		side := silence.North
		if year < 0 {
			side, year = silence.South, -year
		}
		f.Papers = append(f.Papers, of(side, year, year))
	}
	return f
}

// shown is the file of example 1, loose that of example 2, doubt that of example 3, and broken that of example 4.
func shown() silence.File { return dated(50, 20, 1700, 1715, 1730, 1745, 1760) }
func loose() silence.File { return dated(50, 30, 1700, 1715, 1730, 1745, 1760) }
func doubt() silence.File {
	f := dated(50, 15, 1700, 1715, 1730, 1745, 1760)
	f.Papers[2].Year = span(1728, 1731)
	return f
}
func broken() silence.File { return dated(50, 20, 1700, 1715, 1730, -1738, 1745, 1760) }

// first returns the truth in which each paper is of the first year that it can be of, and last that of the last ones.
func first(f silence.File) []int {
	var truth []int
	for _, p := range f.Papers {
		truth = append(truth, p.Year.Lo)
	}
	return truth
}
func last(f silence.File) []int {
	var truth []int
	for _, p := range f.Papers {
		truth = append(truth, p.Year.Hi)
	}
	return truth
}

// copied returns a file that shares no memory with another one.
func copied(f silence.File) silence.File {
	f.Papers = slices.Clone(f.Papers)
	return f
}

// count is 1 of what is so, and 0 of what is not.
func count(is bool) int {
	if is {
		return 1
	}
	return 0
}

// expect reports an error that is not the one wanted.
func expect(t *testing.T, what string, got, want api.Errno) {
	t.Helper()
	if got != want {
		t.Errorf("%s: error %d, not %d", what, got, want)
	}
}

// anyMany returns how many papers a file has that has at most so many: often as many.
func anyMany(r *rand.Rand, most int) int {
	if r.Intn(3) == 0 {
		return most
	}
	return r.Intn(most + 1)
}

// anyFile returns a file of up to so many papers: close together or far apart, of sides that change often or seldom, dated
// narrowly or not. Often a paper is just about a Gap behind the one ahead, and two papers are just about Years apart.
func anyFile(r *rand.Rand, most int) silence.File {
	apart := []int{1, 2, 4, 12, 60, 180}[r.Intn(6)]
	f := file(1+r.Intn(min(500, 4*apart)), min(200, 1+r.Intn(3+apart*3/2)))
	wide, often, side := 1+r.Intn(4), 1+r.Intn(9), r.Intn(2)
	narrower := 1 + r.Intn(6) // how seldom a paper is dated as widely as can be
	year := r.Intn(60)
	if r.Intn(4) == 0 {
		year = 0
	}
	for range anyMany(r, most) {
		p := of(side, year, year+r.Intn(wide))
		if r.Intn(narrower) == 0 {
			p.Year.Hi = year + 3
		}
		f.Papers = append(f.Papers, p)
		year = p.Year.Hi + 1 + r.Intn(apart)
		if r.Intn(2) == 0 { // just so far behind that some years are within the gap, and some are not
			year = max(p.Year.Hi+1, min(p.Year.Lo+f.Gap+r.Intn(3)-1, p.Year.Hi+180))
		}
		if r.Intn(often) == 0 {
			side = 1 - side
		}
	}
	if many := len(f.Papers); many > 1 && r.Intn(3) > 0 {
		one := r.Intn(many - 1)
		other := one + 1 + r.Intn(min(5, many-1-one))
		f.Years = max(1, min(500, f.Papers[other].Year.Lo-f.Papers[one].Year.Lo+r.Intn(5)-2))
	}
	return f
}

// anyTruth returns a truth of a file.
func anyTruth(r *rand.Rand, f silence.File) []int {
	var truth []int
	for _, p := range f.Papers {
		truth = append(truth, p.Year.Lo+r.Intn(p.Year.Hi-p.Year.Lo+1))
	}
	return truth
}

// anyRight returns a file with a truth, and a paper with which a right arises in it.
func anyRight(r *rand.Rand, most int) (silence.File, []int, int) {
	for {
		f := anyFile(r, most)
		truth := anyTruth(r, f)
		if papers := arisesOf(f, truth); len(papers) > 0 {
			return f, truth, papers[r.Intn(len(papers))]
		}
	}
}

// anyList returns a list of papers that often show the right that arises with a paper, or nearly so.
func anyList(r *rand.Rand, f silence.File, truth []int, paper int) []int {
	chain := chainOf(f, truth, paper)
	var list []int
	seldom := 1 + r.Intn(5)
	for number := chain.Lo; number <= paper; number++ {
		if r.Intn(seldom) > 0 || number == paper || number == chain.Lo && r.Intn(3) > 0 {
			list = append(list, number)
		}
	}
	switch at := r.Intn(len(list)); r.Intn(12) {
	case 0:
		list[at] = r.Intn(len(f.Papers))
	case 1:
		list = slices.Insert(list, at, list[at])
	case 2:
		list = list[:at]
	case 3:
		slices.Reverse(list)
	}
	return list
}

// anyWindows returns windows that often prove how many papers show the right that arises with a paper, or nearly do.
func anyWindows(r *rand.Rand, f silence.File, truth []int, paper int) []int {
	var windows []int
	apart := r.Intn(f.Gap + 1)
	if r.Intn(2) == 0 {
		apart = f.Gap
	}
	window := truth[startOf(f, truth, paper)]
	if r.Intn(3) == 0 {
		window += r.Intn(5) - 1
	}
	for window < truth[paper]+r.Intn(2)*r.Intn(2) && len(windows) < 40 {
		if r.Intn(8) > 0 {
			windows = append(windows, window)
		}
		window += 1 + apart/(1+r.Intn(3))
	}
	for len(windows) > 0 && windows[len(windows)-1]+f.Gap >= truth[paper] && r.Intn(9) > 0 {
		windows = windows[:len(windows)-1]
	}
	return windows
}
