package silence_test

import (
	"slices"

	"limitrophe/api"
	"limitrophe/silence"
)

// couldBeChain reports whether papers that stand next to each other are all of one side, and each one at most Gap years behind
// the one ahead of it.
func couldBeChain(f silence.File, truth []int, lo, hi int) bool {
	for number := lo; number <= hi; number++ {
		if f.Papers[number].Side != f.Papers[lo].Side || number > lo && truth[number]-truth[number-1] > f.Gap {
			return false
		}
	}
	return true
}

// chainsOf tries all papers that stand next to each other, and returns the chains, word by word.
func chainsOf(f silence.File, truth []int) []api.Span {
	var all []api.Span
	for lo := range f.Papers {
		for hi := lo; hi < len(f.Papers); hi++ {
			more := lo > 0 && couldBeChain(f, truth, lo-1, hi) || hi+1 < len(f.Papers) && couldBeChain(f, truth, lo, hi+1)
			if couldBeChain(f, truth, lo, hi) && !more {
				all = append(all, span(lo, hi))
			}
		}
	}
	return all
}

// chainOf returns the chain of a paper, and that of one among all chains.
func chainOf(f silence.File, truth []int, paper int) api.Span {
	return among(chainsOf(f, truth), paper)
}
func among(chains []api.Span, paper int) api.Span {
	for _, chain := range chains {
		if chain.Lo <= paper && paper <= chain.Hi {
			return chain
		}
	}
	return api.Span{}
}

// arisesOf returns the papers with which a right arises, word by word.
func arisesOf(f silence.File, truth []int) []int {
	var papers []int
	chains := chainsOf(f, truth)
	isBehind := func(paper int) bool { return truth[paper]-truth[among(chains, paper).Lo] >= f.Years }
	for paper := range f.Papers {
		ofAnother := paper == 0 || among(chains, paper-1) != among(chains, paper)
		if isBehind(paper) && (ofAnother || !isBehind(paper-1)) {
			papers = append(papers, paper)
		}
	}
	return papers
}

// ownerOf returns the owner, and the year of the paper with which the owner's right arose, 0 if none did.
func ownerOf(f silence.File, truth []int) (owner, since int) {
	owner = silence.Nobody
	for _, paper := range arisesOf(f, truth) {
		if owner == silence.Nobody || truth[paper] > since {
			owner, since = f.Papers[paper].Side, truth[paper]
		}
	}
	return owner, since
}

// truthsOf returns all truths of a file.
func truthsOf(f silence.File) [][]int {
	truths := [][]int{nil}
	for _, p := range f.Papers {
		var longer [][]int
		for _, truth := range truths {
			for year := p.Year.Lo; year <= p.Year.Hi; year++ {
				longer = append(longer, append(slices.Clip(truth), year))
			}
		}
		truths = longer
	}
	return truths
}

// manyTruths returns how many truths a file has.
func manyTruths(f silence.File) int {
	many := 1
	for _, p := range f.Papers {
		many *= p.Year.Hi - p.Year.Lo + 1
	}
	return many
}

// years are those in which the owner's right arose, by owners, and in how many truths each one is it.
type years struct {
	since [3][]int
	many  [3]int
}

// yearsOfTruths asks all truths of a file.
func yearsOfTruths(f silence.File) years {
	var y years
	for _, truth := range truthsOf(f) {
		owner, since := ownerOf(f, truth)
		y.since[owner] = append(y.since[owner], since)
		y.many[owner]++
	}
	return y
}

// reached is what is known of papers that are dated so far: the years of the first paper of the last chain and of the last
// paper, the owner, and since when.
type reached struct{ first, last, owner, since int }

// yearsOfSteps dates one paper after the other, and keeps all that is reached by some years, each once.
func yearsOfSteps(f silence.File) years {
	all := map[reached]int{{owner: silence.Nobody}: 1}
	for number, p := range f.Papers {
		next := map[reached]int{}
		for was, many := range all {
			for year := p.Year.Lo; year <= p.Year.Hi; year++ {
				is := reached{year, year, was.owner, was.since}
				if number > 0 && f.Papers[number-1].Side == p.Side && year <= was.last+f.Gap {
					is.first = was.first
				}
				if is.first+f.Years <= year && was.last < is.first+f.Years {
					is.owner, is.since = p.Side, year
				}
				next[is] += many
			}
		}
		all = next
	}
	var y years
	for is, many := range all {
		y.since[is.owner] = append(y.since[is.owner], is.since)
		y.many[is.owner] += many
	}
	return y
}

// owners returns who is the owner in some truth.
func (y years) owners() []int {
	var owners []int
	for owner, many := range y.many {
		if many > 0 {
			owners = append(owners, owner)
		}
	}
	return owners
}

// span returns the least and the greatest year in which an owner's right arose.
func (y years) span(owner int) api.Span {
	return span(slices.Min(y.since[owner]), slices.Max(y.since[owner]))
}

// isShown reports whether papers of a list show the right that arises with a paper, word by word.
func isShown(f silence.File, truth []int, paper int, list []int) bool {
	if len(list) == 0 || list[len(list)-1] != paper || truth[paper]-truth[list[0]] < f.Years {
		return false
	}
	chain := chainOf(f, truth, paper)
	for i, number := range list {
		if number < chain.Lo || number > chain.Hi {
			return false
		}
		if i > 0 && (number <= list[i-1] || truth[number]-truth[list[i-1]] > f.Gap) {
			return false
		}
	}
	return true
}

// fewestOf tries all lists of papers up to one, strictly increasing, and returns the least number of papers that show its right.
func fewestOf(f silence.File, truth []int, paper int) int {
	least := len(f.Papers) + 1
	for set := range 1 << (paper + 1) {
		var list []int
		for number := range paper + 1 {
			if set>>number&1 == 1 {
				list = append(list, number)
			}
		}
		if len(list) < least && isShown(f, truth, paper, list) {
			least = len(list)
		}
	}
	return least
}

// startOf returns the last paper of its chain that is Years or more ahead of a paper with which a right arises.
func startOf(f silence.File, truth []int, paper int) int {
	start := -1
	chain := chainOf(f, truth, paper)
	for number := chain.Lo; number <= chain.Hi; number++ {
		if truth[paper]-truth[number] >= f.Years {
			start = number
		}
	}
	return start
}

// windowOf returns the papers that the window of a year has.
func windowOf(f silence.File, truth []int, paper, window int) []int {
	var papers []int
	chain := chainOf(f, truth, paper)
	for number := chain.Lo; number <= chain.Hi; number++ {
		if truth[number] > window && truth[number] <= window+f.Gap {
			papers = append(papers, number)
		}
	}
	return papers
}

// errorOfWindows returns what Proves answers with windows, word by word.
func errorOfWindows(f silence.File, truth []int, paper int, windows []int) api.Errno {
	for i := 1; i < len(windows); i++ {
		if windows[i-1] >= windows[i] {
			return api.ErrOrder
		}
	}
	for _, window := range windows {
		if window < truth[startOf(f, truth, paper)] || window >= truth[paper] {
			return api.ErrValue
		}
	}
	var met []int
	for _, window := range windows {
		papers := windowOf(f, truth, paper, window)
		if slices.Contains(papers, paper) || slices.ContainsFunc(papers, func(p int) bool { return slices.Contains(met, p) }) {
			return api.ErrFalse
		}
		met = append(met, papers...)
	}
	return api.OK
}

// mostWindows tries all windows that prove something, and returns the most that there can be, and how many were tried.
func mostWindows(f silence.File, truth []int, paper int) (most, tried int) {
	var goOn func(from int, windows []int)
	goOn = func(from int, windows []int) {
		tried++
		most = max(most, len(windows))
		for window := from; window < truth[paper]; window++ {
			longer := append(slices.Clip(windows), window)
			if errorOfWindows(f, truth, paper, longer) == api.OK {
				goOn(window+1, longer)
			}
		}
	}
	goOn(truth[startOf(f, truth, paper)], nil)
	return most, tried
}
