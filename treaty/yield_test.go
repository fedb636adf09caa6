package treaty_test

import (
	"slices"
	"testing"

	"limitrophe/api"
	"limitrophe/treaty"
)

func TestExample3(t *testing.T) {
	legs, e := treaty.Yield(lake(), list(1, 0))
	if !slices.Equal(legs, list(0)) || e != api.OK {
		t.Error(legs, e)
	}
	n, e := treaty.Proves(lake(), list(1, 0), [][]int{{0, 3, 3, 3}, {1, 1, 1, 1}, {2, 2, 2, 1}})
	if n != 1 || e != api.OK {
		t.Error(n, e)
	}
}

func TestExample4(t *testing.T) {
	c := lake()
	c.Legs[0].Other = 1
	for _, reading := range [][]int{{0, 0}, {1, 0}} {
		legs, e := treaty.Yield(c, reading)
		if !slices.Equal(legs, list(0)) || e != api.OK {
			t.Error(reading, legs, e)
		}
		expectLines(t, c, reading, 0)
	}
	reading, many, e := treaty.Fewest(c)
	if !slices.Equal(reading, list(0, 0)) || many != 1 || e != api.OK {
		t.Error(reading, many, e)
	}
}

// expectLines reports another number of lines.
func expectLines(t *testing.T, c treaty.Treaty, reading []int, many int) {
	t.Helper()
	if lines, e := treaty.Lines(c, reading); len(lines) != many || e != api.OK {
		t.Error(reading, lines, e)
	}
}

func TestYielding(t *testing.T) {
	for _, x := range []struct {
		what    string
		change  func(t *treaty.Treaty)
		reading []int
		many    int
		best    []int
		fewest  int
	}{
		{"a reading with lines", func(t *treaty.Treaty) {}, list(0, 0), 0, list(0, 0), 0},
		{"a reading without", func(t *treaty.Treaty) {}, list(1, 0), 1, list(0, 0), 0},
		{"no ways", func(t *treaty.Treaty) { t.Ways = nil }, list(1, 0), 2, list(0, 0), 2},
		{"no legs", func(t *treaty.Treaty) { t.Legs = nil }, list(1, 0), 0, list(0, 0), 0},
		{"a later reading is better", func(t *treaty.Treaty) { t.Starts = list(1); t.Words[0][0].Ends = nil }, list(0, 0), 1, list(1, 0), 0},
		{"ten legs that cannot be kept", func(t *treaty.Treaty) {
			t.Ways, t.Legs = nil, told(0, 1, 0, 1, 0, 1, 0, 1, 0, 1)
		}, list(0, 0), 10, list(0, 0), 10},
		{"one leg more costs another leg", func(t *treaty.Treaty) { t.Legs = told(0, 1, 0) }, list(0, 0), 1, list(0, 0), 1},
	} {
		c := lake()
		x.change(&c)
		legs, e := treaty.Yield(c, x.reading)
		enough, f := treaty.Enough(c, x.reading, legs)
		if len(legs) != x.many || !enough || e != api.OK || f != api.OK {
			t.Error(x.what, legs, enough, e, f)
		}
		floors, e := treaty.Floors(c, x.reading)
		n, f := treaty.Proves(c, x.reading, floors)
		if n != x.many || e != api.OK || f != api.OK {
			t.Error(x.what, floors, n, e, f)
		}
		best, fewest, e := treaty.Fewest(c)
		if !slices.Equal(best, x.best) || fewest != x.fewest || e != api.OK {
			t.Error(x.what, best, fewest, e)
		}
	}
}

func TestEnough(t *testing.T) {
	for _, x := range []struct {
		reading, legs []int
		is            bool
		e             api.Errno
	}{
		{list(0, 0), nil, true, api.OK},
		{list(0, 0), list(1), true, api.OK},
		{list(1, 0), nil, false, api.OK},
		{list(1, 0), list(1), false, api.OK},
		{list(1, 0), list(0), true, api.OK},
		{list(1, 0), list(0, 1), true, api.OK},
		{list(1, 0), list(1, 0), false, api.ErrOrder},
		{list(1, 0), list(1, 1), false, api.ErrOrder},
		{list(1, 0), list(2), false, api.ErrArg},
		{list(1, 0), list(-1), false, api.ErrArg},
		{list(1, 0), list(1, 0, 2), false, api.ErrArg},
		{list(1, 1), list(1, 0), false, api.ErrArg},
	} {
		is, e := treaty.Enough(lake(), x.reading, x.legs)
		if is != x.is || e != x.e {
			t.Error(x.reading, x.legs, is, e)
		}
	}
}

func TestProves(t *testing.T) {
	for _, x := range []struct {
		what    string
		reading []int
		floors  [][]int
		n       int
		e       api.Errno
	}{
		{"floors of example 3", list(1, 0), [][]int{{0, 3, 3, 3}, {1, 1, 1, 1}, {2, 2, 2, 1}}, 1, api.OK},
		{"floors that prove nothing", list(1, 0), [][]int{{0, 0, 0, 0}, {0, 0, 0, 0}, {0, 0, 0, 0}}, 0, api.OK},
		{"lower floors", list(1, 0), [][]int{{0, 3, 3, 3}, {1, 1, 1, 1}, {1, 2, 0, 1}}, 0, api.OK},
		{"the greatest floor", list(1, 0), [][]int{{0, 11, 11, 11}, {1, 1, 1, 1}, {2, 2, 2, 1}}, 1, api.OK},
		{"a start that costs", list(1, 0), [][]int{{1, 3, 3, 3}, {1, 1, 1, 1}, {2, 2, 2, 1}}, 0, api.ErrFalse},
		{"a leg that can lead, at a price", list(1, 0), [][]int{{0, 3, 3, 3}, {1, 1, 1, 1}, {2, 2, 2, 2}}, 0, api.ErrFalse},
		{"a leg that cannot, at twice the price", list(1, 0), [][]int{{0, 3, 3, 3}, {2, 1, 1, 1}, {2, 2, 2, 1}}, 0, api.ErrFalse},
		{"in another reading", list(0, 0), [][]int{{0, 3, 3, 3}, {1, 1, 1, 1}, {2, 2, 2, 1}}, 0, api.ErrFalse},
		{"a row less", list(1, 0), [][]int{{0, 3, 3, 3}, {1, 1, 1, 1}}, 0, api.ErrCount},
		{"a row more", list(1, 0), [][]int{{0, 3, 3, 3}, {1, 1, 1, 1}, {2, 2, 2, 1}, {2, 2, 2, 1}}, 0, api.ErrCount},
		{"a number less", list(1, 0), [][]int{{0, 3, 3, 3}, {1, 1, 1, 1}, {2, 2, 2}}, 0, api.ErrCount},
		{"a number more", list(1, 0), [][]int{{0, 3, 3, 3, 3}, {1, 1, 1, 1}, {2, 2, 2, 1}}, 0, api.ErrCount},
		{"a number below all, and one less", list(1, 0), [][]int{{-1, 3, 3, 3}, {1, 1, 1, 1}, {2, 2, 2}}, 0, api.ErrCount},
		{"a number below all", list(1, 0), [][]int{{0, 3, 3, 3}, {1, 1, 1, 1}, {2, 2, -1, 1}}, 0, api.ErrValue},
		{"a number above all", list(1, 0), [][]int{{1, 12, 3, 3}, {1, 1, 1, 1}, {2, 2, 2, 1}}, 0, api.ErrValue},
		{"no floors", list(1, 0), nil, 0, api.ErrCount},
		{"no reading", nil, nil, 0, api.ErrArg},
	} {
		n, e := treaty.Proves(lake(), x.reading, x.floors)
		if n != x.n || e != x.e {
			t.Error(x.what, n, e)
		}
	}
}

func TestFloorsWithoutLegs(t *testing.T) {
	c := lake()
	c.Legs, c.Starts = nil, list(1, 2)
	n, e := treaty.Proves(c, list(0, 0), [][]int{{9, 0, 0, 9}})
	if n != 0 || e != api.OK {
		t.Error(n, e)
	}
	_, e = treaty.Proves(c, list(0, 0), [][]int{{0, 0, 1, 0}})
	expect(t, "a start that costs", e, api.ErrFalse)
}
