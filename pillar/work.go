package pillar

import (
	"iter"
	"slices"

	"limitrophe/api"
)

// work is a valid profile at work. All that is seen between two places depends on one truth for them: that in which
// there is most light, or least.
type work struct {
	Profile
	head   func(api.Span) int         // which end of its span the height of a place has that sees or is seen
	rest   func(api.Span) int         // which end the heights of the places between have, and the bend
	sights [MaxPlaces][MaxPlaces]bool // whether a place sees a later one
}

// lowest and highest take an end of a span.
func lowest(s api.Span) int  { return s.Lo }
func highest(s api.Span) int { return s.Hi }

// inDark puts a valid profile to work so that places see each other if they surely do: what hides is as high as can be.
func inDark(p Profile) *work { return look(work{Profile: p, head: lowest, rest: highest}) }

// inLight puts a valid profile to work so that places see each other if they can.
func inLight(p Profile) *work { return look(work{Profile: p, head: highest, rest: lowest}) }

// known returns a profile of which one truth is left.
func (p Profile) known(heights []int, bend int) Profile {
	ground := make([]api.Span, len(heights))
	for place, height := range heights {
		ground[place] = api.Span{Lo: height, Hi: height}
	}
	return Profile{At: p.At, Ground: ground, Tall: p.Tall, Bend: api.Span{Lo: bend, Hi: bend}}
}

// look fills the sights of a profile at work.
func look(w work) *work {
	for i := range w.At {
	pairs:
		for j := i + 1; j < len(w.At); j++ {
			hides := func(k int) bool { return w.need(i, k, j) > w.Tall }
			for k := i + 1; k < j; k++ {
				if hides(k) {
					continue pairs
				}
			}
			w.sights[i][j] = true
		}
	}
	return &w
}

// need returns the least Tall with which place k does not hide the places i and j, before and behind it, from each other.
func (w *work) need(i, k, j int) int {
	before, behind := w.At[k]-w.At[i], w.At[j]-w.At[k]
	whole := before + behind
	// Heights are multiplied by the whole distance and by Unit, so that no fractions are left.
	ground := (w.rest(w.Ground[k])*Unit + w.rest(w.Bend)*before*behind) * whole
	line := (w.head(w.Ground[i])*behind + w.head(w.Ground[j])*before) * Unit
	if ground < line {
		return 0
	}
	return (ground-line)/(whole*Unit) + 1
}

// tall returns the least Tall with which two places see each other.
func (w *work) tall(i, j int) int {
	i, j = min(i, j), max(i, j)
	tall := 0
	for k := i + 1; k < j; k++ {
		tall = max(tall, w.need(i, k, j))
	}
	return tall
}

// sees reports whether a place sees a later one.
func (w *work) sees(i, j int) bool { return w.sights[i][j] }

// see reports whether two places see each other.
func (w *work) see(i, j int) bool { return w.sees(min(i, j), max(i, j)) }

// seen yields the later places that are seen from one, in increasing order.
func (w *work) seen(place int) iter.Seq[int] {
	return func(yield func(int) bool) {
		for next := place + 1; next < len(w.At); next++ {
			if w.sees(place, next) && !yield(next) {
				return
			}
		}
	}
}

// holds reports whether pillars at some of the places hold.
func (w *work) holds(pillars []int) bool {
	last := len(pillars) - 1
	return last >= 0 && pillars[0] == 0 && pillars[last] == len(w.At)-1 && everyNext(pillars, w.sees)
}

// needs returns how many pillars are needed from each place on up to a last one, if none stands at a place that is left
// out. Places from which no pillars lead there are not in it.
func (w *work) needs(last, without int) map[int]int {
	needs := map[int]int{last: 1}
	for place := last - 1; place >= 0; place-- {
		if place == without {
			continue
		}
		for next := range w.seen(place) {
			many, leads := needs[next]
			if best, is := needs[place]; leads && (!is || many+1 < best) {
				needs[place] = many + 1
			}
		}
	}
	return needs
}

// fewest returns the fewest pillars from one place to another one of which none stands at a place that is left out, of
// several such lists the first one; or nothing if there are none.
func (w *work) fewest(first, last, without int) []int {
	needs := w.needs(last, without)
	if needs[first] == 0 {
		return nil
	}
	list := []int{first}
	for place, left := first, needs[first]-1; left > 0; left-- {
		for next := range w.seen(place) {
			if needs[next] == left {
				place = next
				break
			}
		}
		list = append(list, place)
	}
	return list
}

// mended returns pillars without a lost one, between whose neighbours others stand; or nothing if there are none.
func (w *work) mended(pillars []int, lost int) []int {
	middle := w.fewest(pillars[lost-1], pillars[lost+1], pillars[lost])
	if len(middle) == 0 {
		return nil
	}
	return slices.Concat(pillars[:lost-1], middle, pillars[lost+2:])
}

// levels returns for each place how many pillars stand before it, if they are the fewest that lead there.
func (w *work) levels() []int {
	levels := make([]int, len(w.At))
	for place := range levels {
		levels[place] = place
	}
	for place, level := range levels {
		for next := range w.seen(place) {
			levels[next] = min(levels[next], level+1)
		}
	}
	return levels
}

// areLevels reports whether numbers, one for each place, are levels.
func (w *work) areLevels(numbers []int) bool {
	for place, number := range numbers {
		for next := range w.seen(place) {
			if numbers[next] > number+1 {
				return false
			}
		}
	}
	return true
}
