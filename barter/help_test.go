package barter_test

import (
	"math/rand"
	"slices"
	"testing"

	"limitrophe/api"
	"limitrophe/barter"
)

// none is no village, and north and south are the sides, as the chapter writes them.
const (
	none  = -1
	north = 0
	south = 1
)

// list makes a list, ours and theirs a free stretch of the North and of the South, and well puts a well on a stretch.
func list(n ...int) []int { return n }
func ours(n, s int) barter.Stretch {
	return barter.Stretch{Owner: north, North: n, South: s, Well: none}
}
func theirs(n, s int) barter.Stretch {
	return barter.Stretch{Owner: south, North: n, South: s, Well: none}
}
func well(village int, s barter.Stretch) barter.Stretch {
	s.Well = village
	return s
}

// land makes a land without villages, settled one with two: the first one is the North's, the second one the South's.
func land(s ...barter.Stretch) barter.Land { return barter.Land{Stretches: s} }
func settled(s ...barter.Stretch) barter.Land {
	return barter.Land{Stretches: s, Villages: list(north, south)}
}

// three is the land of example 1, and tied that of example 5.
func three() barter.Land { return land(ours(10, 30), theirs(40, 20), theirs(20, 20)) }
func tied() barter.Land  { return settled(well(0, ours(10, 30)), theirs(40, 20), theirs(20, 20)) }

// allBound is a land whose stretches are all bound.
func allBound() barter.Land { return settled(well(0, ours(7, 8)), well(1, theirs(9, 1))) }

// give makes an exchange.
func give(whole int, parts ...int) barter.Exchange {
	return barter.Exchange{Whole: whole, Parts: parts}
}

// same reports whether two exchanges are the same one.
func same(a, b barter.Exchange) bool { return a.Whole == b.Whole && slices.Equal(a.Parts, b.Parts) }

// withStretch returns a land in which a stretch is another one.
func withStretch(l barter.Land, stretch int, s barter.Stretch) barter.Land {
	l.Stretches = slices.Clone(l.Stretches)
	l.Stretches[stretch] = s
	return l
}

// expect reports an error that is not the one wanted.
func expect(t *testing.T, what string, got, want api.Errno) {
	t.Helper()
	if got != want {
		t.Errorf("%s: error %d, not %d", what, got, want)
	}
}

// anyLand returns a land of so many stretches with worths up to a limit, of which some are bound.
func anyLand(r *rand.Rand, stretches, worth int) barter.Land {
	var l barter.Land
	for range r.Intn(4) {
		l.Villages = append(l.Villages, r.Intn(2))
	}
	for range stretches {
		s := barter.Stretch{Owner: r.Intn(2), North: 1 + r.Intn(worth), South: 1 + r.Intn(worth), Well: none}
		if r.Intn(4) == 0 {
			s.Well = slices.Index(l.Villages, s.Owner)
		}
		l.Stretches = append(l.Stretches, s)
	}
	return l
}

// extreme returns a land of 16 stretches with worths at their limits, or near to them.
func extreme(r *rand.Rand) barter.Land {
	l := anyLand(r, 16, 1)
	for stretch := range l.Stretches {
		s := &l.Stretches[stretch]
		s.North, s.South = list(1, 2, 999, 1000)[r.Intn(4)], list(1, 2, 999, 1000)[r.Intn(4)]
	}
	return l
}

// greatLand returns a land of up to 16 stretches, the worths of which are of one of several kinds.
func greatLand(r *rand.Rand) barter.Land {
	if r.Intn(3) == 0 {
		return extreme(r)
	}
	return anyLand(r, 1+r.Intn(16), list(3, 20, 1000)[r.Intn(3)])
}

// anyExchange returns an exchange of so many parts that is mostly allowed.
func anyExchange(r *rand.Rand, l barter.Land, whole int) barter.Exchange {
	x := barter.Exchange{Whole: whole}
	for _, s := range l.Stretches {
		part := list(0, whole, r.Intn(whole+1))[r.Intn(3)]
		if s.Well != none && r.Intn(5) > 0 {
			part = whole * (1 - s.Owner)
		}
		x.Parts = append(x.Parts, part)
	}
	return x
}

// pricedExchange returns an exchange for which some price holds, and the price.
func pricedExchange(r *rand.Rand, l barter.Land, whole int) (x barter.Exchange, n, s int) {
	n, s = 1+r.Intn(barter.MaxPrice), 1+r.Intn(barter.MaxPrice)
	if i := r.Intn(len(l.Stretches)); l.Stretches[i].Well == none { // so that worths are alike
		n, s = l.Stretches[i].South, l.Stretches[i].North
	}
	x = barter.Exchange{Whole: whole}
	for _, stretch := range l.Stretches {
		part := r.Intn(whole + 1)
		switch more := stretch.North*n - stretch.South*s; {
		case stretch.Well != none:
			part = whole * (1 - stretch.Owner)
		case more > 0:
			part = whole
		case more < 0:
			part = 0
		}
		x.Parts = append(x.Parts, part)
	}
	return x, n, s
}
