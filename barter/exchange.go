package barter

import (
	"cmp"
	"iter"
	"slices"
)

// pair has a number for each side: the worths of a stretch, or a price.
type pair struct{ north, south int }

// isBound and isFree ask about a stretch of a valid land.
func (l Land) isBound(stretch int) bool { return l.Stretches[stretch].Well != None }
func (l Land) isFree(stretch int) bool  { return !l.isBound(stretch) }

// which yields the stretches for which something is so, in increasing order.
func (l Land) which(is func(stretch int) bool) iter.Seq[int] {
	return func(yield func(int) bool) {
		for stretch := range l.Stretches {
			if is(stretch) && !yield(stretch) {
				return
			}
		}
	}
}

// free yields the stretches that are free, in increasing order.
func (l Land) free() iter.Seq[int] { return l.which(l.isFree) }

// now returns the exchange as things are.
func (l Land) now() Exchange {
	parts := make([]int, len(l.Stretches))
	for stretch, s := range l.Stretches {
		if s.Owner == North {
			parts[stretch] = 1
		}
	}
	return Exchange{Whole: 1, Parts: parts}
}

// allows reports whether a valid exchange is allowed: what is bound to a side is its own, so that stays as it is now.
func (l Land) allows(x Exchange) bool {
	now := l.now()
	for stretch := range l.which(l.isBound) {
		if x.Parts[stretch] != x.Whole*now.Parts[stretch] {
			return false
		}
	}
	return true
}

// has returns what both sides have by a valid exchange.
func (l Land) has(x Exchange) [2]int {
	var has [2]int
	for stretch, s := range l.Stretches {
		has[North] += s.North * x.Parts[stretch]
		has[South] += s.South * (x.Whole - x.Parts[stretch])
	}
	return has
}

// gains returns what both sides gain by a valid exchange.
func (l Land) gains(x Exchange) [2]int {
	gains := l.has(x)
	for side, had := range l.has(l.now()) {
		gains[side] -= x.Whole * had
	}
	return gains
}

// worths returns the worths of a stretch for both sides, in lowest terms.
func (l Land) worths(stretch int) pair {
	s := l.Stretches[stretch]
	north, south := lowest(s.North, s.South)
	return pair{north, south}
}

// isAhead reports whether a stretch comes ahead of another one by its worths.
func (l Land) isAhead(stretch, other int) bool {
	a, b := l.worths(stretch), l.worths(other)
	return a.north*b.south > a.south*b.north
}

// order returns the free stretches in their order.
func (l Land) order() []int {
	order := slices.Collect(l.free())
	slices.SortFunc(order, func(a, b int) int {
		switch {
		case l.worths(a) == l.worths(b):
			return cmp.Compare(a, b)
		case l.isAhead(a, b):
			return -1
		}
		return 1
	})
	return order
}

// waste returns the first two free stretches that are a waste by a valid exchange, and whether there are such: one of
// which the North should have more, and one of which it should have less.
func (l Land) waste(x Exchange) (more, less int, is bool) {
pairs:
	for more = range l.free() {
		for less = range l.free() {
			if x.Parts[more] < x.Whole && x.Parts[less] > 0 && l.isAhead(more, less) {
				is = true
				break pairs
			}
		}
	}
	return more, less, is
}

// isBest reports whether a valid exchange is best. If nothing is a waste, a price holds, and by that price no exchange
// gives both sides together more. If something is, a trade of small parts is better, and no price holds; that is so even
// where such parts would need a Whole beyond MaxWhole.
func (l Land) isBest(x Exchange) bool {
	_, _, isWaste := l.waste(x)
	return l.allows(x) && !isWaste
}

// price returns a price that holds for an exchange that is best: one by which the first free stretch, in their order, of
// which the North has not all parts is worth the same for both sides; or, if there is none, the last one.
func (l Land) price(x Exchange) pair {
	price := pair{1, 1}
	for _, stretch := range l.order() {
		worths := l.worths(stretch)
		price = pair{north: worths.south, south: worths.north}
		if x.Parts[stretch] < x.Whole {
			break
		}
	}
	return price
}

// holds reports whether a price holds for a valid exchange.
func (l Land) holds(x Exchange, price pair) bool {
	for stretch := range l.free() {
		s := l.Stretches[stretch]
		north, south := s.North*price.north, s.South*price.south
		if north > south && x.Parts[stretch] < x.Whole || north < south && x.Parts[stretch] > 0 {
			return false
		}
	}
	return l.allows(x)
}

// lowest returns two numbers that are at least 1 in lowest terms.
func lowest(a, b int) (int, int) {
	whole, rest := a, b
	for rest > 0 {
		whole, rest = rest, whole%rest
	}
	return a / whole, b / whole
}
