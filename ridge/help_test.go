package ridge_test

import (
	"math/rand"
	"slices"
	"strconv"
	"strings"
	"testing"

	"limitrophe/api"
	"limitrophe/ridge"
)

// list makes a list, and span a span.
func list(n ...int) []int      { return n }
func span(lo, hi int) api.Span { return api.Span{Lo: lo, Hi: hi} }

// ground makes a ground of rows with a / between them: A and B are cells of the first and the second sea, numbers
// heights, and two numbers with a - between them spans.
func ground(text string) ridge.Ground {
	var g ridge.Ground
	for _, row := range strings.Split(text, "/") {
		cells := strings.Fields(row)
		g.Wide = len(cells)
		for _, cell := range cells {
			height, sea := cellOf(cell)
			g.Heights, g.Seas = append(g.Heights, height), append(g.Seas, sea)
		}
	}
	return g
}

// cellOf reads a cell.
func cellOf(text string) (height api.Span, sea int) {
	if sea := strings.Index(" AB", text); sea > 0 {
		return api.Span{}, sea
	}
	lo, hi, isSpan := strings.Cut(text, "-")
	if !isSpan {
		hi = lo
	}
	return span(number(lo), number(hi)), 0
}

// number reads a number.
func number(text string) int {
	n, e := strconv.Atoi(text)
	if e != nil {
		panic(e)
	}
	return n
}

// The grounds of the examples 1 to 3.
const (
	one   = "A 3-5 7-9 4-8 B"
	two   = "A 5 B / A 2-6 B"
	three = "A 3-5 7-9 4-6 B"
)

// copyOf returns a ground that shares no memory with another one.
func copyOf(g ridge.Ground) ridge.Ground {
	return ridge.Ground{Wide: g.Wide, Heights: slices.Clone(g.Heights), Seas: slices.Clone(g.Seas)}
}

// withHeight returns a ground with another span of a cell.
func withHeight(g ridge.Ground, cell int, s api.Span) ridge.Ground {
	g = copyOf(g)
	g.Heights[cell] = s
	return g
}

// withSea returns a ground with another number in Seas.
func withSea(g ridge.Ground, cell, sea int) ridge.Ground {
	g = copyOf(g)
	g.Seas[cell] = sea
	return g
}

// otherwise returns a ground with one sea and the other changed.
func otherwise(g ridge.Ground) ridge.Ground {
	g = copyOf(g)
	for cell, sea := range g.Seas {
		if sea > 0 {
			g.Seas[cell] = 3 - sea
		}
	}
	return g
}

// strip returns a ground of one row of so many cells, with a sea at both ends.
func strip(cells int) ridge.Ground {
	g := ridge.Ground{Wide: max(1, cells), Heights: make([]api.Span, cells), Seas: make([]int, cells)}
	if cells > 1 {
		g.Seas[0], g.Seas[cells-1] = 1, 2
	}
	return g
}

// upright returns a ground of one row as one of one column.
func upright(g ridge.Ground) ridge.Ground {
	g = copyOf(g)
	g.Wide = 1
	return g
}

// side makes a side of the letters F, S and E.
func side(text string) ridge.Side {
	return ridge.Side{First: strings.Contains(text, "F"), Second: strings.Contains(text, "S"), Even: strings.Contains(text, "E")}
}

// sides makes sides, where - is none.
func sides(text string) []ridge.Side {
	var l []ridge.Side
	for _, s := range strings.Fields(text) {
		l = append(l, side(s))
	}
	return l
}

// expect reports an error that is not the one wanted.
func expect(t *testing.T, what string, got, want api.Errno) {
	t.Helper()
	if got != want {
		t.Errorf("%s: error %d, not %d", what, got, want)
	}
}

// anyGround returns a ground that is allowed. Its land has spans within two numbers, and one cell in so many is of a sea.
func anyGround(r *rand.Rand, wide, high, lowest, highest, rare int) ridge.Ground {
	for {
		g := ridge.Ground{Wide: wide}
		for range wide * high {
			lo := lowest + r.Intn(highest-lowest+1)
			hi := lo + r.Intn(highest-lo+1)
			if r.Intn(3) == 0 {
				hi = lo
			}
			sea := 0
			if r.Intn(rare) == 0 {
				sea = 1 + r.Intn(2)
			}
			g.Heights, g.Seas = append(g.Heights, span(lo, hi)), append(g.Seas, sea)
		}
		if ridge.Check(g) == api.OK {
			return g
		}
	}
}

// smallGround returns a ground with at most so many truths.
func smallGround(r *rand.Rand, truths int) ridge.Ground {
	for {
		wide := 1 + r.Intn(7)
		high := 1 + r.Intn(4)
		if wide*high < 3 || wide*high > 12 {
			continue
		}
		g := anyGround(r, wide, high, 1, 2+r.Intn(5), 3+r.Intn(3))
		for truthsIn(g) > truths {
			cell := r.Intn(len(g.Heights))
			g.Heights[cell].Hi = g.Heights[cell].Lo
		}
		return g
	}
}

// truthsIn returns how many truths of the land there are.
func truthsIn(g ridge.Ground) int {
	many := 1
	for cell, s := range g.Heights {
		if g.Seas[cell] == 0 {
			many *= s.Hi - s.Lo + 1
		}
	}
	return many
}

// greatGround returns a ground of 100 cells.
func greatGround(r *rand.Rand) ridge.Ground {
	wide := list(1, 2, 4, 5, 10, 20, 25, 50, 100)[r.Intn(9)]
	highest := list(5, 300, 10000)[r.Intn(3)]
	return anyGround(r, wide, 100/wide, 0, highest, list(7, 15, 25)[r.Intn(3)])
}

// anyTruth returns a truth of a ground, half of whose heights are an end of their spans.
func anyTruth(r *rand.Rand, g ridge.Ground) []int {
	var truth []int
	for _, s := range g.Heights {
		height := s.Lo + r.Intn(s.Hi-s.Lo+1)
		switch r.Intn(4) {
		case 0:
			height = s.Lo
		case 1:
			height = s.Hi
		}
		truth = append(truth, height)
	}
	return truth
}

// narrower returns a ground some of whose spans are narrower.
func narrower(r *rand.Rand, g ridge.Ground) ridge.Ground {
	g = copyOf(g)
	for cell, s := range g.Heights {
		if r.Intn(2) == 0 {
			lo := s.Lo + r.Intn(s.Hi-s.Lo+1)
			g.Heights[cell] = span(lo, lo+r.Intn(s.Hi-lo+1))
		}
	}
	return g
}
