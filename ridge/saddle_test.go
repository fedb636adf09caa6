package ridge_test

import (
	"slices"
	"testing"

	"limitrophe/api"
	"limitrophe/ridge"
)

// The grounds that several tests ask.
const (
	spur  = "9 9 9 9 9 / A 7 7 7 B / 9 9 7 9 9" // crossings are in cell 12 to and fro only
	ring  = "5 5 5 / 5 A 5 / 5 5 B"
	apart = "A 4 A 6 B" // ways lead from cell 1 to the first sea alone
	round = "A 9 1 1 B / A 1 1 9 B"
)

// Saddles, their proofs, and which cells can be one, among them those of the examples 1 to 3 (P4.2, P4.3, P4.4).
func TestSaddles(t *testing.T) {
	for _, x := range []struct {
		ground  string
		saddle  api.Span
		ridge   []int // nil if there are several
		saddles []int
	}{
		{one, span(7, 9), list(2), list(2, 3)},
		{two, span(2, 5), list(1, 4), list(1, 4)},
		{three, span(7, 9), list(2), list(2)},
		{"A 0 B", span(0, 0), list(1), list(1)},
		{"A 10000 B", span(10000, 10000), list(1), list(1)},
		{"A 0-10000 B", span(0, 10000), list(1), list(1)},
		{"A 5 5 5 B", span(5, 5), nil, list(1, 2, 3)},
		{"A 3 5 4 B", span(5, 5), list(2), list(2)},
		{"A 3-9 5 B", span(5, 9), list(2), list(1, 2)},
		{"A / 3-5 / 7-9 / 4-8 / B", span(7, 9), list(2), list(2, 3)},
		{"B 3-5 7-9 4-8 A", span(7, 9), list(2), list(2, 3)},
		{"B / 4-8 / 7-9 / 3-5 / A", span(7, 9), list(2), list(1, 2)},
		{apart, span(6, 6), list(3), list(3)},
		{"B 9 B 6-8 A 0 A", span(6, 8), list(3), list(3)},
		{"1 A 5 B 1", span(5, 5), list(2), list(2)},
		{"A 5 B / A 3 B / A 9 B", span(3, 3), list(1, 4, 7), list(4)},
		{"A 5 B / A 3-7 B / A 4-9 B", span(3, 5), list(1, 4, 7), list(1, 4, 7)},
		{"A 5 B / A 6-7 B / A 4-9 B", span(4, 5), list(1, 4, 7), list(1, 7)},
		{"A 5 7 B / 8 2 9 6", span(7, 7), nil, list(2)},
		{"A 5 A / 5 8 5 / B 5 B", span(5, 5), nil, list(3, 5)},
		{round, span(1, 1), nil, list(2, 3, 6, 7)},
		{ring, span(5, 5), list(5, 7), list(0, 1, 2, 3, 5, 6, 7)},
		{spur, span(7, 7), nil, list(6, 7, 8, 12)},
	} {
		g := ground(x.ground)
		saddle, e := ridge.Saddle(g)
		if saddle != x.saddle || e != api.OK {
			t.Error(x.ground, saddle, e)
		}
		saddles, e := ridge.Saddles(g)
		if !slices.Equal(saddles, x.saddles) || e != api.OK {
			t.Error(x.ground, saddles, e)
		}
		cells, e := ridge.Ridge(g)
		if x.ridge != nil && !slices.Equal(cells, x.ridge) || e != api.OK {
			t.Error(x.ground, cells, e)
		}
		expectProofs(t, g, x.saddle)
	}
}

// expectProofs reports a crossing and a ridge that do not prove how high the saddle of a ground is.
func expectProofs(t *testing.T, g ridge.Ground, saddle api.Span) {
	t.Helper()
	way, e := ridge.Crossing(g)
	isHigher := func(cell int) bool { return g.Heights[cell].Hi > saddle.Hi }
	sorted := slices.Compact(slices.Sorted(slices.Values(way)))
	if e != api.OK || !isCrossing(g, way) || slices.ContainsFunc(way, isHigher) || len(sorted) != len(way) {
		t.Error("no crossing of the saddle:", g, way, e)
	}
	if s, e := ridge.Crosses(g, way); s.Hi != saddle.Hi || e != api.OK {
		t.Error("does not prove the saddle's height:", g, way, s, e)
	}
	cells, e := ridge.Ridge(g)
	isLower := func(cell int) bool { return g.Seas[cell] > 0 || g.Heights[cell].Lo < saddle.Lo }
	if e != api.OK || slices.ContainsFunc(cells, isLower) || !slices.IsSorted(cells) || !isMet(g, cells) {
		t.Error("no ridge of the saddle:", g, cells, e)
	}
	for i := range cells {
		if isMet(g, slices.Concat(cells[:i], cells[i+1:])) {
			t.Error("a cell can be left out of the ridge:", g, cells, cells[i])
		}
	}
	if is, e := ridge.Parts(g, cells, saddle.Lo); !is || e != api.OK {
		t.Error("is no ridge:", g, cells, is, e)
	}
}

// A ground without one of the seas has no crossing (P4.2, P4.3, P4.4). All others have one: see TestAllTruths.
func TestNoCrossing(t *testing.T) {
	for _, text := range []string{"5", "A 5", "5 B", "A 2 2", "A 5 A / 5 5 5", "B 5 / 5 5"} {
		a := ask(ground(text), arguments{height: 1})
		for _, number := range list(ofSaddle, ofCrossing, ofRidge, ofSaddles) {
			expect(t, text, a.errors[number], api.ErrNone)
		}
		if a.besidesErrors() {
			t.Error(text, a)
		}
	}
}

// passes makes spans of the cells of a text, where - is none.
func passes(cells ...string) []api.Span {
	var l []api.Span
	for _, cell := range cells {
		s := span(none, none)
		if cell != "-" {
			s, _ = cellOf(cell)
		}
		l = append(l, s)
	}
	return l
}

// The least and the greatest passes (P4.2).
func TestPasses(t *testing.T) {
	for _, x := range []struct {
		ground        string
		first, second []api.Span
	}{
		{one, passes("-", "3-5", "7-9", "7-9", "-"), passes("-", "7-9", "7-9", "4-8", "-")},
		{two, passes("-", "5", "-", "-", "2-6", "-"), passes("-", "5", "-", "-", "2-6", "-")},
		{"A 2-6 3-4 B", passes("-", "2-6", "3-6", "-"), passes("-", "3-6", "3-4", "-")},
		{"A / 2-6 / 3-4 / B", passes("-", "2-6", "3-6", "-"), passes("-", "3-6", "3-4", "-")},
		{"A 0 10000 B", passes("-", "0", "10000", "-"), passes("-", "10000", "10000", "-")},
		{apart, passes("-", "4", "-", "6", "-"), passes("-", "-", "-", "6", "-")},
		{"B 9 B 6-8 A 0 A", passes("-", "-", "-", "6-8", "-", "0", "-"), passes("-", "9", "-", "6-8", "-", "-", "-")},
		{"1 A 5 B 2", passes("1", "-", "5", "-", "-"), passes("-", "-", "5", "-", "2")},
		{round, passes("-", "9", "1", "1", "-", "-", "1", "1", "9", "-"), passes("-", "9", "1", "1", "-", "-", "1", "1", "9", "-")},
		{"A 8 1 / 9 2 7 / 3 4 B", passes("-", "8", "8", "9", "8", "8", "8", "8", "-"), passes("-", "8", "7", "9", "4", "7", "4", "4", "-")},
		{"A 9 9 / 2-4 9 B / 3-5 1-6 7-8", passes("-", "9", "9", "2-4", "9", "-", "3-5", "3-6", "7-8"), passes("-", "9", "9", "7-8", "9", "-", "7-8", "7-8", "7-8")},
	} {
		for sea, want := range [][]api.Span{x.first, x.second} {
			if got, e := ridge.Passes(ground(x.ground), sea+1); !slices.Equal(got, want) || e != api.OK {
				t.Error(x.ground, sea+1, got, e)
			}
		}
	}
}

// Which height a crossing has (P4.3).
func TestCrosses(t *testing.T) {
	for _, x := range []struct {
		ground string
		way    []int
		want   api.Span
	}{
		{one, list(1, 2, 3), span(7, 9)},
		{one, list(1, 2, 1, 2, 3), span(7, 9)},
		{one, list(1, 2, 3, 2, 3), span(7, 9)},
		{two, list(1), span(5, 5)},
		{two, list(4), span(2, 6)},
		{two, list(1, 4), span(5, 6)},
		{two, list(4, 1), span(5, 6)},
		{two, list(4, 1, 4), span(5, 6)},
		{apart, list(3), span(6, 6)},
		{spur, list(6, 7, 12, 7, 8), span(7, 7)},
		{spur, list(0, 1, 2, 3, 4), span(9, 9)},
		{"A 5 0-6 2-4 B", list(1, 2, 3), span(5, 6)},
		{"A 0 B", list(1), span(0, 0)},
	} {
		if got, e := ridge.Crosses(ground(x.ground), x.way); got != x.want || e != api.OK {
			t.Error(x.ground, x.way, got, e)
		}
	}
}

// What is a ridge of a height (P4.3).
func TestParts(t *testing.T) {
	for _, x := range []struct {
		ground string
		cells  []int
		height int
		want   bool
	}{
		{one, list(2), 7, true},
		{one, list(2), 0, true},
		{one, list(2), 8, false},
		{one, list(2), 10000, false},
		{one, list(1), 3, true},
		{one, list(1), 4, false},
		{one, list(3), 4, true},
		{one, list(1, 2, 3), 3, true},
		{one, list(1, 2, 3), 4, false},
		{one, nil, 0, false},
		{two, list(1, 4), 2, true},
		{two, list(1, 4), 3, false},
		{two, list(1), 2, false},
		{two, list(4), 2, false},
		{apart, list(1), 0, false},
		{apart, list(3), 6, true},
		{apart, list(1, 3), 4, true},
		{apart, list(1, 3), 5, false},
		{"A 10000 B", list(1), 10000, true},
		{spur, list(7), 7, false},
		{spur, list(2, 7), 7, false},
		{spur, list(2, 7, 12), 7, true},
		{spur, list(2, 7, 12), 8, false},
		{spur, list(0, 6, 10), 7, true},
		{spur, list(3, 7, 11), 7, true},
		{spur, list(1, 7, 13), 7, true},
		{spur, list(4, 7, 11), 7, false},
		{spur, list(1, 8, 13), 7, false},
		{round, list(1, 6), 1, true},
		{round, list(2, 6), 1, true},
		{round, list(2, 7), 1, true},
		{round, list(2, 8), 1, true},
		{round, list(1, 3), 1, false},
		{round, list(2), 1, false},
		{ring, list(5), 5, false},
		{ring, list(5, 7), 5, true},
		{ring, list(1, 3, 5, 7), 5, true},
		{ring, list(0, 1, 2, 3, 6), 5, false},
	} {
		if got, e := ridge.Parts(ground(x.ground), x.cells, x.height); got != x.want || e != api.OK {
			t.Error(x.ground, x.cells, x.height, got, e)
		}
	}
}
