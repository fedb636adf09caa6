package pillar

import (
	"iter"
	"slices"

	"limitrophe/api"
)

// book is a valid roll at work, with finds that are read by it.
type book struct {
	Finds
	pillars int
	apart   [MaxPlaces][MaxPlaces]api.Span // how far a pillar is from a later one
	ways    [MaxPlaces][MaxPlaces]int      // in how many ways the stones up to one can be read, if it is that pillar
}

// open puts a valid roll to work.
func open(r Roll) *book {
	b := &book{pillars: len(r.Gaps) + 1}
	for first := range b.pillars {
		for last := first + 1; last < b.pillars; last++ {
			b.apart[first][last] = sum(r.Gaps[first:last]...)
		}
	}
	return b
}

// sum returns the span of the sums of numbers, one from each span.
func sum(spans ...api.Span) api.Span {
	var all api.Span
	for _, s := range spans {
		all = api.Span{Lo: all.Lo + s.Lo, Hi: all.Hi + s.Hi}
	}
	return all
}

// common returns the span of the numbers that two spans of distances have in common, which is zero if there are none.
func common(a, b api.Span) api.Span {
	both := api.Span{Lo: max(a.Lo, b.Lo), Hi: min(a.Hi, b.Hi)}
	if both.Lo > both.Hi {
		return api.Span{}
	}
	return both
}

// says reports whether the bottle of a stone says a pillar, or any.
func (b *book) says(stone, pillar int) bool {
	return b.Numbers[stone] == None || b.Numbers[stone] == pillar
}

// behind yields the pillars that the stone behind one can be, if this is a pillar.
func (b *book) behind(stone, pillar int) iter.Seq[int] {
	return func(yield func(int) bool) {
		for next := pillar + 1; next < b.pillars; next++ {
			fits := common(b.apart[pillar][next], b.Gaps[stone]) != api.Span{}
			if fits && b.says(stone+1, next) && !yield(next) {
				return
			}
		}
	}
}

// read counts the readings of finds, and forgets those that were read before.
func (b *book) read(f Finds) int {
	b.Finds = f
	clear(b.ways[:])
	for pillar := range b.pillars {
		if b.says(0, pillar) {
			b.ways[0][pillar] = 1
		}
	}
	for stone := range f.Gaps {
		for pillar, ways := range b.ways[stone] {
			for next := range b.behind(stone, pillar) {
				b.ways[stone+1][next] += ways
			}
		}
	}
	all := 0
	for _, ways := range b.ways[len(f.Gaps)] {
		all += ways
	}
	return all
}

// numbers returns for each stone of the finds that were read last the pillars that it is in some reading.
func (b *book) numbers() [][]int {
	last := len(b.Numbers) - 1
	lists := make([][]int, len(b.Numbers))
	for stone := last; stone >= 0; stone-- {
		for pillar, ways := range b.ways[stone] {
			if ways > 0 && (stone == last || b.leads(stone, pillar, lists[stone+1])) {
				lists[stone] = append(lists[stone], pillar)
			}
		}
	}
	return lists
}

// leads reports whether the stone behind one can be one of some pillars, if this is a pillar.
func (b *book) leads(stone, pillar int, pillars []int) bool {
	for next := range b.behind(stone, pillar) {
		if slices.Contains(pillars, next) {
			return true
		}
	}
	return false
}

// wrong returns the stones of finds without which there is a reading.
func (b *book) wrong(f Finds) []int {
	var list []int
	for stone := range f.Numbers {
		if b.read(f.without(stone)) > 0 {
			list = append(list, stone)
		}
	}
	return list
}

// without returns finds of at least two stones without one of them.
func (f Finds) without(stone int) Finds {
	gaps, numbers := slices.Clone(f.Gaps), slices.Clone(f.Numbers)
	switch last := len(numbers) - 1; stone {
	case 0:
		gaps = gaps[1:]
	case last:
		gaps = gaps[:last-1]
	default:
		gaps = slices.Replace(gaps, stone-1, stone+1, sum(gaps[stone-1], gaps[stone]))
	}
	return Finds{Gaps: gaps, Numbers: slices.Delete(numbers, stone, stone+1)}
}
