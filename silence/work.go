package silence

import (
	"slices"

	"limitrophe/api"
)

// work is a valid file at work in one truth.
type work struct {
	File
	years []int // those of its papers
}

// right is one that arises in a truth.
type right struct {
	work
	paper int      // with which it arises
	chain api.Span // that of the paper
}

// belongs reports whether a paper of a year belongs to the chain of the one ahead of it, which is of a year, too.
func (f File) belongs(paper, ahead, year int) bool {
	return f.Papers[paper].Side == f.Papers[paper-1].Side && year-ahead <= f.Gap
}

// arises reports whether a right arises with a paper of a year, by the years of the first paper of its chain and of the one
// ahead of it. None arises with the first one itself, as that is no years behind.
func (f File) arises(first, ahead, year int) bool {
	return year-first >= f.Years && ahead-first < f.Years
}

// goesOn reports whether a paper goes on the chain of the one ahead of it.
func (w work) goesOn(paper int) bool { return w.belongs(paper, w.years[paper-1], w.years[paper]) }

// chains returns the chains in their order.
func (w work) chains() []api.Span { return runs(len(w.Papers), w.goesOn) }

// runs returns the numbers below one as runs, in each of which every number goes on what the one ahead of it is of.
func runs(below int, goesOn func(number int) bool) []api.Span {
	var all []api.Span
	first := 0
	// end ends the run that has begun ahead of a number, and begins the next one with that.
	end := func(next int) {
		all = append(all, api.Span{Lo: first, Hi: next - 1})
		first = next
	}
	for number := 1; number < below; number++ {
		if !goesOn(number) {
			end(number)
		}
	}
	if below > 0 {
		end(below)
	}
	return all
}

// rights returns the rights that arise, in the order of their papers.
func (w work) rights() []right {
	var all []right
	for _, chain := range w.chains() {
		for paper := chain.Lo + 1; paper <= chain.Hi; paper++ {
			if w.arises(w.years[chain.Lo], w.years[paper-1], w.years[paper]) {
				all = append(all, right{w, paper, chain})
			}
		}
	}
	return all
}

// owner returns the side whose right arises last, Nobody if none arises.
func (w work) owner() int {
	owner := Nobody
	for _, r := range w.rights() {
		owner = w.Papers[r.paper].Side
	}
	return owner
}

// isFar reports whether a paper is Years or more ahead of the one with which the right arises.
func (r right) isFar(paper int) bool { return r.years[r.paper]-r.years[paper] >= r.Years }

// start returns the last paper of the chain that is far. The first one is; and the one with which the right arises is not.
func (r right) start() int {
	paper := r.chain.Lo
	for r.isFar(paper + 1) {
		paper++
	}
	return paper
}

// ahead returns the first paper of the chain that is at most Gap years ahead of one that is not the first one itself.
func (r right) ahead(of int) int {
	paper := of - 1
	for paper > r.chain.Lo && r.years[of]-r.years[paper-1] <= r.Gap {
		paper--
	}
	return paper
}

// fewest goes back from the paper with which the right arises to one that is far, each time as many years as it can: no
// papers get there in fewer steps.
func (r right) fewest() []int {
	back := []int{r.paper}
	for paper := r.paper; !r.isFar(paper); {
		paper = r.ahead(paper)
		back = append(back, paper)
	}
	list := slices.Clone(back)
	slices.Reverse(list)
	return list
}

// isShownBy reports whether papers show the right.
func (r right) isShownBy(list []int) bool {
	inChain := func(paper int) bool { return between(paper, r.chain.Lo, r.chain.Hi) }
	if len(list) == 0 || !every(list, inChain) || !isIncreasing(list) {
		return false
	}
	for i := 1; i < len(list); i++ {
		if r.years[list[i]]-r.years[list[i-1]] > r.Gap {
			return false
		}
	}
	return r.isFar(list[0]) && list[len(list)-1] == r.paper
}

// has reports whether the window of a year has a paper of the chain.
func (r right) has(window, paper int) bool { return between(r.years[paper]-window, 1, r.Gap) }

// windows returns windows, the first one from the start on, and each other one from the last paper of the one before on: so they
// share no paper. Who goes from the start, each time as many years as a gap allows, comes to the last paper of each window, and
// then to the one with which the right arises: to show it needs two papers more than there are windows, and no more.
func (r right) windows() []int {
	var windows []int
	for paper := r.start(); !r.has(r.years[paper], r.paper); {
		window := r.years[paper]
		windows = append(windows, window)
		for r.has(window, paper+1) {
			paper++
		}
	}
	return windows
}

// areProof reports whether windows that are allowed prove anything: no paper of the chain is in two of them, and the one with
// which the right arises in none.
func (r right) areProof(windows []int) bool {
	proof := true
search:
	for paper := r.chain.Lo; paper <= r.chain.Hi; paper++ {
		found := paper == r.paper
		for _, window := range windows {
			if !r.has(window, paper) {
				continue
			}
			if found {
				proof = false
				break search
			}
			found = true
		}
	}
	return proof
}
