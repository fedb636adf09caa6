package barter_test

import (
	"slices"

	"limitrophe/barter"
)

// allowedBy reports whether an exchange is allowed: each village has its well.
func allowedBy(l barter.Land, x barter.Exchange) bool {
	for stretch, s := range l.Stretches {
		if s.Well == none {
			continue
		}
		if side := l.Villages[s.Well]; side == north && x.Parts[stretch] != x.Whole || side == south && x.Parts[stretch] != 0 {
			return false
		}
	}
	return true
}

// hadBy tells what both sides have, part by part.
func hadBy(l barter.Land, x barter.Exchange) (n, s int) {
	for stretch := range l.Stretches {
		for part := range x.Whole {
			if part < x.Parts[stretch] {
				n += l.Stretches[stretch].North
			} else {
				s += l.Stretches[stretch].South
			}
		}
	}
	return n, s
}

// gainedBy tells what both sides gain.
func gainedBy(l barter.Land, x barter.Exchange) (n, s int) {
	n, s = hadBy(l, x)
	for _, stretch := range l.Stretches {
		if stretch.Owner == north {
			n -= x.Whole * stretch.North
		} else {
			s -= x.Whole * stretch.South
		}
	}
	return n, s
}

// betterBy reports whether an exchange is better than another one, if both are allowed.
func betterBy(l barter.Land, x, than barter.Exchange) bool {
	n, s := gainedBy(l, x)
	oldN, oldS := gainedBy(l, than)
	moreN, moreS := n*than.Whole-oldN*x.Whole, s*than.Whole-oldS*x.Whole
	return moreN >= 0 && moreS >= 0 && moreN+moreS > 0
}

// exchangesBy lists the allowed exchanges of a Whole.
func exchangesBy(l barter.Land, whole int) []barter.Exchange {
	var all []barter.Exchange
	parts := make([]int, len(l.Stretches))
	var choose func(stretch int)
	choose = func(stretch int) {
		if stretch == len(parts) {
			if x := give(whole, slices.Clone(parts)...); allowedBy(l, x) {
				all = append(all, x)
			}
			return
		}
		for parts[stretch] = 0; parts[stretch] <= whole; parts[stretch]++ {
			choose(stretch + 1)
		}
	}
	choose(0)
	return all
}

// aheadBy reports whether a stretch comes ahead of another one by its worths.
func aheadBy(l barter.Land, a, b int) bool {
	x, y := l.Stretches[a], l.Stretches[b]
	return x.North*y.South > x.South*y.North
}

// wastedBy returns the first pair of free stretches that are a waste, if there is one.
func wastedBy(l barter.Land, x barter.Exchange) (more, less int, is bool) {
	for a := range l.Stretches {
		for b := range l.Stretches {
			free := l.Stretches[a].Well == none && l.Stretches[b].Well == none
			if free && x.Parts[a] < x.Whole && x.Parts[b] > 0 && aheadBy(l, a, b) {
				return a, b, true
			}
		}
	}
	return 0, 0, false
}

// heldBy reports whether a price holds for an exchange.
func heldBy(l barter.Land, x barter.Exchange, n, s int) bool {
	for stretch, worth := range l.Stretches {
		if worth.Well != none {
			continue
		}
		if worth.North*n > worth.South*s && x.Parts[stretch] != x.Whole {
			return false
		}
		if worth.North*n < worth.South*s && x.Parts[stretch] != 0 {
			return false
		}
	}
	return allowedBy(l, x)
}

// orderBy returns the free stretches, each at the place that tells how many come ahead of it.
func orderBy(l barter.Land) []int {
	places := map[int]int{}
	for a, x := range l.Stretches {
		place := 0
		for b, y := range l.Stretches {
			if y.Well == none && (aheadBy(l, b, a) || !aheadBy(l, a, b) && b < a) {
				place++
			}
		}
		if x.Well == none {
			places[place] = a
		}
	}
	var order []int
	for place := range len(places) {
		order = append(order, places[place])
	}
	return order
}

// byOrderBy calls something with each exchange by order that is told with a Whole up to a limit, the lesser ones first.
func byOrderBy(l barter.Land, limit int, with func(barter.Exchange)) {
	order := orderBy(l)
	for whole := 1; whole <= limit; whole++ {
		x := give(whole, make([]int, len(l.Stretches))...)
		for stretch, s := range l.Stretches {
			if s.Well != none && s.Owner == north {
				x.Parts[stretch] = whole
			}
		}
		with(x)
		for _, stretch := range order {
			for x.Parts[stretch] < whole {
				x.Parts[stretch]++
				with(x)
			}
		}
	}
}

// mostBy looks through all exchanges by order with a Whole up to a limit for the one by which the North gains so much
// and the South has the most, told with the least Whole.
func mostBy(l barter.Land, gain, limit int) (best barter.Exchange, is bool) {
	bestSouth := 0
	byOrderBy(l, limit, func(x barter.Exchange) {
		n, _ := gainedBy(l, x)
		_, s := hadBy(l, x)
		if n >= gain*x.Whole && (!is || s*best.Whole > bestSouth*x.Whole) {
			best, bestSouth, is = give(x.Whole, slices.Clone(x.Parts)...), s, true
		}
	})
	return best, is
}

// evenBy looks through all exchanges by order with a Whole up to a limit for those by which both sides gain alike: the
// one with the least Whole, and how many of all others are not the same one by all parts.
func evenBy(l barter.Land, limit int) (even barter.Exchange, others int) {
	byOrderBy(l, limit, func(x barter.Exchange) {
		if n, s := gainedBy(l, x); n != s {
			return
		}
		if even.Whole == 0 {
			even = give(x.Whole, slices.Clone(x.Parts)...)
		}
		for stretch, part := range x.Parts {
			if part*even.Whole != even.Parts[stretch]*x.Whole {
				others++
				return
			}
		}
	})
	return even, others
}
