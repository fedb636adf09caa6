package pillar_test

import (
	"math/big"
	"slices"

	"limitrophe/api"
	"limitrophe/pillar"
)

// seenBy reports whether two places see each other in a truth, by fractions, word by word as the chapter says it.
func seenBy(p pillar.Profile, heights []int, bend, i, j int) bool {
	i, j = min(i, j), max(i, j)
	head := func(place int) *big.Rat { return big.NewRat(int64(heights[place]+p.Tall), 1) }
	for k := i + 1; k < j; k++ {
		fromFirst, fromLast := int64(p.At[k]-p.At[i]), int64(p.At[j]-p.At[k])
		ground := big.NewRat(int64(bend), pillar.Unit)
		ground.Mul(ground, big.NewRat(fromFirst, 1)).Mul(ground, big.NewRat(fromLast, 1))
		ground.Add(ground, big.NewRat(int64(heights[k]), 1))
		rise := new(big.Rat).Sub(head(j), head(i))
		rise.Mul(rise, big.NewRat(fromFirst, int64(p.At[j]-p.At[i])))
		if ground.Cmp(rise.Add(rise, head(i))) >= 0 {
			return false
		}
	}
	return true
}

// truths calls something with each truth of a profile.
func truths(p pillar.Profile, with func(heights []int, bend int)) {
	heights := make([]int, len(p.At))
	var choose func(place int)
	choose = func(place int) {
		if place == len(heights) {
			for bend := p.Bend.Lo; bend <= p.Bend.Hi; bend++ {
				with(heights, bend)
			}
			return
		}
		for height := p.Ground[place].Lo; height <= p.Ground[place].Hi; height++ {
			heights[place] = height
			choose(place + 1)
		}
	}
	choose(0)
}

// worst returns the truth of a profile in which two places are as low as can be, and all else is as high.
func worst(p pillar.Profile, i, j int) (heights []int, bend int) {
	for place, s := range p.Ground {
		heights = append(heights, s.Hi)
		if place == i || place == j {
			heights[place] = s.Lo
		}
	}
	return heights, p.Bend.Hi
}

// surely has for each place which ones it surely sees, by the worst truths.
func surely(p pillar.Profile) [][]bool {
	sees := make([][]bool, len(p.At))
	for i := range sees {
		sees[i] = make([]bool, len(p.At))
		for j := range i {
			heights, bend := worst(p, i, j)
			sees[i][j] = seenBy(p, heights, bend, i, j)
			sees[j][i] = sees[i][j]
		}
	}
	return sees
}

// holdBy reports whether pillars hold.
func holdBy(sees [][]bool, pillars []int) bool {
	if len(pillars) == 0 || pillars[0] != 0 || pillars[len(pillars)-1] != len(sees)-1 {
		return false
	}
	for i := 1; i < len(pillars); i++ {
		if pillars[i-1] >= pillars[i] || !sees[pillars[i-1]][pillars[i]] {
			return false
		}
	}
	return true
}

// areLevelsBy reports whether there is a level for each place, as the chapter says.
func areLevelsBy(sees [][]bool, levels []int) bool {
	for i := range levels {
		for j := i + 1; j < len(levels); j++ {
			if sees[i][j] && levels[j]-levels[i] > 1 {
				return false
			}
		}
	}
	return len(levels) == len(sees)
}

// fewestBy looks through all lists of places that begin and end as told, for the fewest pillars that hold and for which
// something more is so: all such lists, the first one first.
func fewestBy(sees [][]bool, isAllowed func(pillars []int) bool) [][]int {
	var best [][]int
	for set := range 1 << len(sees) {
		var pillars []int
		for place := range sees {
			if set>>place&1 == 1 {
				pillars = append(pillars, place)
			}
		}
		if !holdBy(sees, pillars) || !isAllowed(pillars) || len(best) > 0 && len(pillars) > len(best[0]) {
			continue
		}
		if len(best) > 0 && len(pillars) < len(best[0]) {
			best = nil
		}
		best = append(best, pillars)
	}
	slices.SortFunc(best, slices.Compare[[]int])
	return best
}

// mendBy looks through all lists of places for those that are the pillars without the lost one, and others between its
// neighbours.
func mendBy(sees [][]bool, pillars []int, lost int) [][]int {
	first, last := pillars[lost-1], pillars[lost+1]
	isBetween := func(place int) bool { return place > first && place < last }
	others := slices.DeleteFunc(slices.Clone(pillars), isBetween)
	return fewestBy(sees, func(l []int) bool {
		return slices.Equal(slices.DeleteFunc(slices.Clone(l), isBetween), others) && !slices.Contains(l, pillars[lost])
	})
}

// stepsBy has for all two places how many steps lead from the first one to the second one, at least.
func stepsBy(sees [][]bool) [][]int {
	steps := make([][]int, len(sees))
	for i := range steps {
		for j := range steps {
			switch {
			case i == j:
				steps[i] = append(steps[i], 0)
			case j > i && sees[i][j]:
				steps[i] = append(steps[i], 1)
			default:
				steps[i] = append(steps[i], 1000)
			}
		}
	}
	for via := range steps {
		for i := range steps {
			for j := range steps {
				steps[i][j] = min(steps[i][j], steps[i][via]+steps[via][j])
			}
		}
	}
	return steps
}

// firstBy returns the first list of the fewest steps from one place to another one.
func firstBy(steps [][]int, first, last int) []int {
	l := list(first)
	for place := first; place != last; l = append(l, place) {
		next := place + 1
		for steps[place][next] != 1 || steps[next][last] != steps[place][last]-1 {
			next++
		}
		place = next
	}
	return l
}

// readingsBy lists all readings of finds.
func readingsBy(x pillar.Roll, f pillar.Finds) [][]int {
	var all [][]int
	var reading []int
	var read func()
	read = func() {
		stone := len(reading)
		if stone == len(f.Numbers) {
			all = append(all, slices.Clone(reading))
			return
		}
		for n := range len(x.Gaps) + 1 {
			if bottle := f.Numbers[stone]; bottle != none && bottle != n {
				continue
			}
			if stone > 0 && !canBe(x, reading[stone-1], n, f.Gaps[stone-1]) {
				continue
			}
			reading = append(reading, n)
			read()
			reading = reading[:stone]
		}
	}
	read()
	return all
}

// canBe reports whether a pillar is behind another one, as far as some number of a gap.
func canBe(x pillar.Roll, first, last int, gap api.Span) bool {
	least, most := 0, 0
	for n := first; n < last; n++ {
		least, most = least+x.Gaps[n].Lo, most+x.Gaps[n].Hi
	}
	for apart := gap.Lo; apart <= gap.Hi && first < last; apart++ {
		if apart >= least && apart <= most {
			return true
		}
	}
	return false
}

// numbersBy returns for each stone the numbers that it has in some of its readings.
func numbersBy(readings [][]int) [][]int {
	all := make([][]int, len(readings[0]))
	for _, reading := range readings {
		for stone, n := range reading {
			all[stone] = append(all[stone], n)
		}
	}
	for stone := range all {
		slices.Sort(all[stone])
		all[stone] = slices.Compact(all[stone])
	}
	return all
}

// wrongBy returns the stones without which there is a reading.
func wrongBy(x pillar.Roll, f pillar.Finds) []int {
	var wrong []int
	for stone := range f.Numbers {
		var rest pillar.Finds
		open := span(0, 0) // what lies between the last stone that stays and this one
		for other, n := range f.Numbers {
			if other > 0 {
				open = span(open.Lo+f.Gaps[other-1].Lo, open.Hi+f.Gaps[other-1].Hi)
			}
			if other == stone {
				continue
			}
			if len(rest.Numbers) > 0 {
				rest.Gaps = append(rest.Gaps, open)
			}
			rest.Numbers = append(rest.Numbers, n)
			open = span(0, 0)
		}
		if len(readingsBy(x, rest)) > 0 {
			wrong = append(wrong, stone)
		}
	}
	return wrong
}
