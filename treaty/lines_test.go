package treaty_test

import (
	"slices"
	"testing"

	"limitrophe/api"
	"limitrophe/treaty"
)

func TestExample1(t *testing.T) {
	lines, e := treaty.Lines(lake(), list(0, 0))
	expect(t, "the reading 0, 0", e, api.OK)
	expectLists(t, "the reading 0, 0", lines, [][]int{{0, 1, 3}, {0, 2, 3}})
	lines, e = treaty.Lines(lake(), list(1, 0))
	expect(t, "the reading 1, 0", e, api.OK)
	expectLists(t, "the reading 1, 0", lines, nil)
}

func TestExample2(t *testing.T) {
	readings, e := treaty.Readings(lake())
	expect(t, "Readings", e, api.OK)
	expectLists(t, "Readings", readings, [][]int{{0, 0}})
	ends, e := treaty.Ends(lake())
	expect(t, "Ends", e, api.OK)
	expectLists(t, "Ends", ends, [][]int{{0}, {1, 2}, {3}})
	reading, e := treaty.Agrees(lake(), list(0, 1, 3))
	expect(t, "Agrees", e, api.OK)
	broken, f := treaty.Breaks(lake(), list(1, 0), list(0, 1, 3))
	expect(t, "Breaks", f, api.OK)
	if !slices.Equal(reading, list(0, 0)) || !slices.Equal(broken, list(0)) {
		t.Error(reading, broken)
	}
}

func TestLinesOfUnusualTreaties(t *testing.T) {
	for _, x := range []struct {
		what   string
		change func(t *treaty.Treaty)
		lines  [][]int // in the reading 0, 0
	}{
		{"a word that comes twice", func(t *treaty.Treaty) { t.Legs = told(0, 0) }, [][]int{{0, 1, 1}, {0, 1, 2}, {0, 2, 1}, {0, 2, 2}}},
		{"two languages that agree on one end", func(t *treaty.Treaty) {
			t.Words[1][0] = means(list(0, 1, 2), list(2, 3))
			t.Legs[0].Other = 1
		}, [][]int{{0, 2, 2}, {0, 2, 3}}},
		{"two languages with kinds apart", func(t *treaty.Treaty) { t.Words[1][0].Ends = list(1, 2); t.Legs[0].Other = 1 }, nil},
		{"two languages with ends apart", func(t *treaty.Treaty) { t.Words[1][0].Kinds = list(0); t.Legs[0].Other = 1 }, nil},
		{"both words the same", func(t *treaty.Treaty) { t.Legs[0].Other = 0 }, [][]int{{0, 1, 3}, {0, 2, 3}}},
		{"a leg back to where it began", func(t *treaty.Treaty) { t.Words[0][0].Ends = list(0); t.Legs = told(0) }, [][]int{{0, 0}}},
		{"a leg at a place without ways of its kind", func(t *treaty.Treaty) {
			t.Words[0][0] = means(list(2), list(0))
			t.Legs = told(0)
		}, nil},
		{"a leg backwards along its ways", func(t *treaty.Treaty) {
			t.Starts = list(2)
			t.Words[0][0].Ends = list(0)
			t.Legs = told(0)
		}, [][]int{{2, 0}}},
		{"a meaning without kinds", func(t *treaty.Treaty) { t.Words[1][0].Kinds = nil }, nil},
		{"a meaning without ends", func(t *treaty.Treaty) { t.Words[1][0].Ends = nil }, nil},
		{"no ways", func(t *treaty.Treaty) { t.Ways = nil }, nil},
		{"two ways between the same places", func(t *treaty.Treaty) {
			t.Ways = append(t.Ways, treaty.Way{A: 0, B: 1, Kind: 0}, treaty.Way{A: 1, B: 0, Kind: 0}, treaty.Way{A: 0, B: 1, Kind: 3})
		}, [][]int{{0, 1, 3}, {0, 2, 3}}},
		{"another way of a kind between places that are joined", func(t *treaty.Treaty) {
			t.Ways = append(t.Ways, treaty.Way{A: 1, B: 0, Kind: 1})
		}, [][]int{{0, 1, 3}, {0, 2, 3}}},
		{"several starts", func(t *treaty.Treaty) { t.Starts = list(0, 2, 3) }, [][]int{{0, 1, 3}, {0, 2, 3}, {2, 1, 3}, {2, 2, 3}}},
		{"no legs", func(t *treaty.Treaty) { t.Starts = list(1, 3); t.Legs = nil }, [][]int{{1}, {3}}},
	} {
		c := lake()
		x.change(&c)
		lines, e := treaty.Lines(c, list(0, 0))
		expect(t, x.what, e, api.OK)
		expectLists(t, x.what, lines, x.lines)
	}
}

func TestTreatyWithoutWords(t *testing.T) {
	c := treaty.Treaty{Places: 3, Starts: list(0, 2)}
	lines, e := treaty.Lines(c, nil)
	expect(t, "Lines", e, api.OK)
	expectLists(t, "Lines", lines, [][]int{{0}, {2}})
	readings, e := treaty.Readings(c)
	expect(t, "Readings", e, api.OK)
	expectLists(t, "Readings", readings, [][]int{{}})
	all, e := treaty.All(c)
	expect(t, "All", e, api.OK)
	expectLists(t, "All", all, [][]int{{0}, {2}})
	ends, e := treaty.Ends(c)
	expect(t, "Ends", e, api.OK)
	expectLists(t, "Ends", ends, [][]int{{0, 2}})
	reading, e := treaty.Agrees(c, list(2))
	expect(t, "Agrees", e, api.OK)
	if len(reading) != 0 {
		t.Error(reading)
	}
	_, e = treaty.Agrees(c, list(1))
	expect(t, "Agrees, from elsewhere", e, api.ErrNone)
	reading, many, e := treaty.Fewest(c)
	expect(t, "Fewest", e, api.OK)
	if len(reading) != 0 || many != 0 {
		t.Error(reading, many)
	}
	_, e = treaty.Lines(c, list(0))
	expect(t, "a number for no word", e, api.ErrArg)
}

// A word means the same in each leg, so readings are not mixed.
func TestWordsMeanTheSameEachTime(t *testing.T) {
	c := lake()
	c.Legs = told(0, 0)
	all, e := treaty.All(c)
	expect(t, "All", e, api.OK)
	if slices.ContainsFunc(all, func(line []int) bool { return slices.Equal(line, list(0, 1, 3)) }) {
		t.Error("the word 0 meant the kind 0, then the kind 1:", all)
	}
}

func TestMostLines(t *testing.T) {
	two := chain(10, upTo(10), list(0, 1))
	lines, e := treaty.Lines(two, list(0, 0))
	all, f := treaty.All(two)
	if len(lines) != 200 || len(all) != 200 || e != api.OK || f != api.OK {
		t.Error(len(lines), len(all), e, f)
	}
	// one line more, over there and back to the place 10
	more := chain(10, append(upTo(10), 10), list(0, 1, 10))
	more.Places, more.Starts = 12, append(more.Starts, 10)
	more.Ways = append(more.Ways, treaty.Way{A: 10, B: 11})
	lines, e = treaty.Lines(more, list(0, 0))
	all, f = treaty.All(more)
	if lines != nil || all != nil || e != api.ErrLarge || f != api.ErrLarge {
		t.Error(len(lines), len(all), e, f)
	}
}

// Lines are counted once, in however many readings they agree.
func TestMostLinesOfReadings(t *testing.T) {
	c := chain(10, upTo(10), list(0))
	for range 3 {
		c.Words[0] = append(c.Words[0], c.Words[0][0])
		c.Words[1] = append(c.Words[1], c.Words[1][0])
	}
	all, e := treaty.All(c)
	if len(all) != 100 || e != api.OK {
		t.Error(len(all), e)
	}
	c.Words[1][2].Ends = list(1)
	all, e = treaty.All(c)
	if len(all) != 200 || e != api.OK || !slices.IsSortedFunc(all, slices.Compare) {
		t.Error(len(all), e)
	}
	c.Words[1][3].Ends = list(2)
	all, e = treaty.All(c)
	if all != nil || e != api.ErrLarge {
		t.Error(len(all), e)
	}
	lines, e := treaty.Lines(c, list(0, 3))
	if len(lines) != 100 || e != api.OK {
		t.Error(len(lines), e)
	}
	if readings, e := treaty.Readings(c); len(readings) != 16 || e != api.OK {
		t.Error(len(readings), e)
	}
	ends, e := treaty.Ends(c)
	expect(t, "Ends", e, api.OK)
	expectLists(t, "Ends", ends, [][]int{upTo(10), upTo(10), {0, 1, 2}})
}

func TestBreaksAndAgrees(t *testing.T) {
	for _, x := range []struct {
		reading, line, broken []int
		e                     api.Errno
		first                 []int
		f                     api.Errno
	}{
		{list(0, 0), list(0, 2, 3), nil, api.OK, list(0, 0), api.OK},
		{list(1, 0), list(0, 3, 3), list(0), api.OK, nil, api.ErrNone},
		{list(1, 0), list(0, 3, 2), list(0, 1), api.OK, nil, api.ErrNone},
		{list(0, 0), list(0, 1, 2), list(1), api.OK, nil, api.ErrNone},
		{list(0, 0), list(1, 2, 3), nil, api.ErrFalse, nil, api.ErrNone},
		{list(0, 0), list(1, 2, 4), nil, api.ErrArg, nil, api.ErrArg},
		{list(0, 0), list(0, -1, 3), nil, api.ErrArg, nil, api.ErrArg},
		{list(0, 0), list(0, 1), nil, api.ErrArg, nil, api.ErrArg},
		{list(0, 0), list(0, 1, 3, 3), nil, api.ErrArg, nil, api.ErrArg},
		{list(0, 0), nil, nil, api.ErrArg, nil, api.ErrArg},
		{list(2, 0), list(1, 2, 3), nil, api.ErrArg, nil, api.ErrNone},
		{list(0, -1), list(0, 1, 3), nil, api.ErrArg, list(0, 0), api.OK},
		{list(0), list(0, 1, 3), nil, api.ErrArg, list(0, 0), api.OK},
		{list(0, 0, 0), list(0, 1, 3), nil, api.ErrArg, list(0, 0), api.OK},
	} {
		broken, e := treaty.Breaks(lake(), x.reading, x.line)
		first, f := treaty.Agrees(lake(), x.line)
		if !slices.Equal(broken, x.broken) || e != x.e || !slices.Equal(first, x.first) || f != x.f {
			t.Error(x.reading, x.line, broken, e, first, f)
		}
	}
}

func TestAgreesReturnsTheFirstReading(t *testing.T) {
	c := lake()
	c.Words[0] = append([]treaty.Meaning{{}}, c.Words[0]...)
	c.Words[1] = []treaty.Meaning{{}, c.Words[1][0], c.Words[1][0]}
	first, e := treaty.Agrees(c, list(0, 1, 3))
	if !slices.Equal(first, list(1, 1)) || e != api.OK {
		t.Error(first, e)
	}
	readings, e := treaty.Readings(c)
	expect(t, "Readings", e, api.OK)
	expectLists(t, "Readings", readings, [][]int{{1, 1}, {1, 2}})
}

func TestEndsOfSeveralReadings(t *testing.T) {
	c := lake()
	c.Starts = list(0, 1)
	ends, e := treaty.Ends(c)
	expect(t, "Ends", e, api.OK)
	expectLists(t, "Ends", ends, [][]int{{0, 1}, {1, 2, 3}, {3}})
	// behind the places 0 and 2 the line cannot go on, so neither is told
	c = chain(3, upTo(3), list(1))
	c.Words[1][0].Kinds = list(1)
	c.Ways = append(c.Ways, treaty.Way{A: 1, B: 2, Kind: 1})
	c.Ways[1].Kind = 2
	ends, e = treaty.Ends(c)
	expect(t, "Ends", e, api.OK)
	expectLists(t, "Ends", ends, [][]int{{0, 1}, {1}, {1}})
}

func TestNoLineAtAll(t *testing.T) {
	c := lake()
	c.Ways = nil
	readings, e := treaty.Readings(c)
	expect(t, "Readings", e, api.OK)
	all, f := treaty.All(c)
	expect(t, "All", f, api.OK)
	ends, g := treaty.Ends(c)
	expect(t, "Ends", g, api.ErrNone)
	if len(readings) > 0 || len(all) > 0 || ends != nil {
		t.Error(readings, all, ends)
	}
}

func TestErrorsOfReadings(t *testing.T) {
	for _, reading := range [][]int{nil, {0}, {0, 0, 0}, {2, 0}, {-1, 0}, {0, 1}, {0, -1}} {
		a := ask(lake(), reading, list(9), list(9), nil)
		for i, e := range a.errors {
			switch i {
			case 1, 2, 7, 8, 10, 11: // Lines, Breaks, Yield, Enough, Floors, Proves
				expect(t, "a reading", e, api.ErrArg)
			}
		}
	}
}
