package ridge_test

import (
	"reflect"
	"slices"
	"testing"

	"limitrophe/api"
	"limitrophe/ridge"
)

// How cells can drain, among them those of the examples 1 to 3, and which ones are in doubt (P4.4).
func TestSides(t *testing.T) {
	for _, x := range []struct {
		what, ground, sides string
		doubt               []int
	}{
		{"example 1", one, "F F FE SE S", list(2, 3)},
		{"example 2", two, "F E S F E S", nil},
		{"example 3", three, "F F E S S", nil},
		{"one column", "A / 3-5 / 7-9 / 4-8 / B", "F F FE SE S", list(2, 3)},
		{"the seas changed", "B 3-5 7-9 4-8 A", "S S SE FE F", list(2, 3)},
		{"between two heights", "A 1-4 9-12 2-5 8-11 B", "F F FE FSE SE S", list(2, 3, 4)},
		{"one cell", "A 0-10000 B", "F E S", nil},
		{"one cell each", "A 0-10000 0-10000 B", "F FE SE S", list(1, 2)},
		{"spans that only meet", "A 3-5 5-8 B", "F FE E S", list(1)},
		{"spans that do not meet", "A 3-4 5-8 B", "F F E S", nil},
		{"ways to one sea alone", "A 4-9 A 6 B", "F F F E S", nil},
		{"ways to either sea alone", "B 0-10000 B 5 A 3 A", "S S S E F F F", nil},
		{"behind the seas", "0-9 A 5 B 0-9", "F F E S S", nil},
		{"ways that share cells", "20 20 2 20 20 / A 1-9 5 1-9 B", "E E FSE E E F FE FSE SE S", list(2, 6, 7, 8)},
		{"ways that share a cell of any height", "20 20 2 20 20 / A 1-5 3-8 1-5 B", "E E FSE E E F FE FSE SE S", list(2, 6, 7, 8)},
		{"ways that share the highest cell", "20 20 2 20 20 / A 1-4 5 1-4 B", "E E E E E F F E S S", nil},
		{"ways whose shared cell can be the highest", "20 20 2 20 20 / A 1-5 5 1-6 B", "E E FE E E F FE FE SE S", list(2, 6, 7, 8)},
		{"from the shore of both", "A 1 B / 9 2-6 9", "F E S E E E", nil},
		{"over a valley", "A 5-8 2 2 B", "F E S S S", nil},
		{"over a valley that can be a hill", "A 5-8 2-6 2 B", "F FE SE S S", list(1, 2)},
		{"spans of one height", "A 5 7 B / 8 2 9 6", "F F E S E F E S", nil},
	} {
		g := ground(x.ground)
		if got, e := ridge.Sides(g); !slices.Equal(got, sides(x.sides)) || e != api.OK {
			t.Error(x.what, got, e)
		}
		if got, e := ridge.Doubt(g); !slices.Equal(got, x.doubt) || e != api.OK {
			t.Error(x.what, got, e)
		}
	}
}

// How cells drain in a truth (P4.1).
func TestDrains(t *testing.T) {
	const first, second, even = ridge.First, ridge.Second, ridge.Even
	for _, x := range []struct {
		ground string
		truth  []int
		want   []ridge.Drain
	}{
		{one, list(0, 3, 7, 8, 0), []ridge.Drain{first, first, first, even, second}},
		{one, list(0, 5, 8, 8, 0), []ridge.Drain{first, first, even, even, second}},
		{one, list(0, 5, 9, 4, 0), []ridge.Drain{first, first, even, second, second}},
		{two, list(0, 5, 0, 0, 6, 0), []ridge.Drain{first, even, second, first, even, second}},
		{apart, list(0, 4, 0, 6, 0), []ridge.Drain{first, first, first, even, second}},
		{"B 1-3 B 5 A", list(0, 2, 0, 5, 0), []ridge.Drain{second, second, second, even, first}},
		{"A / 1-9 / 1-9 / B", list(0, 9, 1, 0), []ridge.Drain{first, even, second, second}},
		{"A / 1-9 / 1-9 / B", list(0, 1, 9, 0), []ridge.Drain{first, first, even, second}},
		{"A 2 2 B / A 9 A 5", list(0, 2, 2, 0, 0, 9, 0, 5), []ridge.Drain{first, even, even, second, first, even, first, even}},
		{"A 8 1 / 9 2 7 / 3 4 B", list(0, 8, 1, 9, 2, 7, 3, 4, 0), []ridge.Drain{first, even, second, even, second, second, second, second, second}},
	} {
		if got, e := ridge.Drains(ground(x.ground), x.truth); !slices.Equal(got, x.want) || e != api.OK {
			t.Error(x.ground, x.truth, got, e)
		}
	}
	if ridge.Dry != 0 || first != 1 || second != 2 || even != 3 {
		t.Error("how cells drain has other numbers")
	}
}

// The greatest row and the greatest column are no exception, and one cell more is too much (P4.1, P4.4).
func TestLimits(t *testing.T) {
	for _, g := range []ridge.Ground{strip(100), upright(strip(100))} {
		g.Heights[50] = span(9999, 10000)
		truth, _ := endsOf(g)
		a := ask(g, arguments{truth: truth, sea: 1, cells: list(50), height: 9999})
		want := slices.Concat(slices.Repeat(sides("F"), 50), sides("E"), slices.Repeat(sides("S"), 49))
		if a.saddle != span(9999, 10000) || !a.parts || !slices.Equal(a.sides, want) {
			t.Error(a)
		}
		if !slices.Equal(a.numbers[1], list(50)) || !slices.Equal(a.numbers[3], list(50)) {
			t.Error(a)
		}
		if len(a.numbers[0]) != 98 || len(a.numbers[2]) != 0 || a.passes[98] != span(9999, 10000) || a.drains[50] != ridge.Even {
			t.Error(a)
		}
	}
	for _, g := range []ridge.Ground{strip(101), upright(strip(101))} {
		a := ask(g, arguments{})
		if a.errors[ofSides] != api.ErrCount || a.errors[ofSaddle] != api.ErrCount || a.besidesErrors() {
			t.Error(a)
		}
	}
}

// What Heights has for cells of a sea says nothing (P4.2 to P4.4).
func TestHeightsOfSeasSayNothing(t *testing.T) {
	for _, text := range []string{one, two, three, apart, spur, ring, round, "A 1-4 9-12 2-5 8-11 B"} {
		g := ground(text)
		other := copyOf(g)
		for cell, sea := range g.Seas {
			if sea > 0 {
				other.Heights[cell] = []api.Span{span(0, 10000), span(10000, 10000), span(6, 8)}[cell%3]
			}
		}
		way, _ := ridge.Crossing(g)
		x := arguments{sea: 2, way: way, cells: way, height: 1}
		a, b := ask(g, x), ask(other, x)
		if !reflect.DeepEqual(a, b) {
			t.Error(text, a, b)
		}
	}
}
