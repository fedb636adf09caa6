package river_test

import (
	"math"
	"slices"
	"testing"

	"limitrophe/api"
	"limitrophe/river"
)

// P5.1: how wide and how high a map is, and how many cells it has.
func TestCheckTellsCounts(t *testing.T) {
	for _, x := range []struct {
		what              string
		wide, high, cells int
		e                 api.Errno
	}{
		{"the least map", 3, 1, 3, api.OK},
		{"the widest row", 12, 1, 12, api.OK},
		{"the highest map of three columns", 3, 12, 36, api.OK},
		{"the greatest map", 12, 12, 144, api.OK},
		{"a map of some rows", 5, 4, 20, api.OK},
		{"nothing", 0, 0, 0, api.ErrCount},
		{"no columns", 0, 1, 0, api.ErrCount},
		{"no rows", 3, 0, 0, api.ErrCount},
		{"no rows, but cells", 3, 0, 3, api.ErrCount},
		{"one column", 1, 3, 3, api.ErrCount},
		{"two columns", 2, 1, 2, api.ErrCount},
		{"two columns, two rows", 2, 2, 4, api.ErrCount},
		{"13 columns", 13, 1, 13, api.ErrCount},
		{"13 rows", 3, 13, 39, api.ErrCount},
		{"13 columns, 12 rows", 13, 12, 156, api.ErrCount},
		{"fewer than none of both", -3, -1, 3, api.ErrCount},
		{"fewer than no rows", 3, -1, 3, api.ErrCount},
		{"no cells", 3, 1, 0, api.ErrCount},
		{"a cell too few", 3, 1, 2, api.ErrCount},
		{"a cell too many", 3, 1, 4, api.ErrCount},
		{"a row too many", 3, 1, 6, api.ErrCount},
		{"a row too few", 3, 2, 3, api.ErrCount},
		{"the greatest map, with a cell too few", 12, 12, 143, api.ErrCount},
		{"the greatest map, with a cell too many", 12, 12, 145, api.ErrCount},
		{"as many as can be", math.MaxInt, math.MaxInt, 1, api.ErrCount},
		{"as few as can be", math.MinInt, math.MinInt, 0, api.ErrCount},
		{"so many that their product is 0", 1 << 62, 4, 0, api.ErrCount},
		{"so many rows that the product is 2", 3, 0x5555555555555556, 2, api.ErrCount},
	} {
		m := river.Map{Wide: x.wide, High: x.high, Cells: make([]int, x.cells)}
		if x.e == api.OK {
			m = blank(x.wide, x.high)
		}
		expect(t, x.what, river.Check(m), x.e)
	}
}

// P5.1: the kinds of cells.
func TestCheckTellsValues(t *testing.T) {
	m := drawn("W..E / W.IE / WE.E")
	for cell := range m.Cells {
		for _, kind := range list(-1, 4, 5, math.MinInt, math.MaxInt) {
			expect(t, "a kind that there is not", river.Check(withCell(m, cell, kind)), api.ErrValue)
		}
		if column := cell % m.Wide; column == 0 || column == 3 {
			continue
		}
		for kind := range 4 {
			expect(t, "any kind within a row", river.Check(withCell(m, cell, kind)), api.OK)
		}
	}
}

// P5.1: the ends of rows.
func TestCheckTellsRows(t *testing.T) {
	for _, m := range []river.Map{blank(3, 1), blank(3, 3), blank(12, 12), drawn("WWE / WEE / WIE")} {
		expect(t, "rows that are right", river.Check(m), api.OK)
		for row := range m.High {
			for kind := range 4 {
				first, last := row*m.Wide, row*m.Wide+m.Wide-1
				if kind != river.West {
					expect(t, "a row that begins otherwise", river.Check(withCell(m, first, kind)), api.ErrFalse)
				}
				if kind != river.East {
					expect(t, "a row that ends otherwise", river.Check(withCell(m, last, kind)), api.ErrFalse)
				}
			}
		}
	}
	expect(t, "rows the wrong way round", river.Check(drawn("E.W")), api.ErrFalse)
}

// P5.1: errors of a map come in their order.
func TestCheckTellsTheFirstError(t *testing.T) {
	for _, x := range []struct {
		what string
		m    river.Map
		e    api.Errno
	}{
		{"a cell too few, a kind that there is not, a wrong row", river.Map{Wide: 3, High: 1, Cells: list(4, 0)}, api.ErrCount},
		{"two columns, a kind that there is not", river.Map{Wide: 2, High: 1, Cells: list(1, 4)}, api.ErrCount},
		{"13 columns, a wrong row", withCell(blank(13, 1), 0, river.East), api.ErrCount},
		{"13 rows, a kind that there is not", withCell(blank(3, 13), 1, 9), api.ErrCount},
		{"a wrong row, and then a kind that there is not", withCell(drawn("..E / W.E"), 4, 4), api.ErrValue},
		{"a wrong row, and then a row that ends with no kind", withCell(drawn("..E / W.E"), 5, -1), api.ErrValue},
	} {
		expect(t, x.what, river.Check(x.m), x.e)
	}
}

// P5.1: how many years there are, which maps they have, and how wide and high these are.
func TestCheckYears(t *testing.T) {
	ok := drawn("W.E")
	noCount, noValue, noRow := river.Map{Wide: 3, High: 1}, withCell(ok, 1, 4), drawn("..E")
	for _, x := range []struct {
		what string
		l    []river.Map
		e    api.Errno
	}{
		{"no years", nil, api.ErrCount},
		{"one year", years("W.E"), api.OK},
		{"two years", years("W.E", "WIE"), api.OK},
		{"10 years", slices.Repeat(years("W.E"), 10), api.OK},
		{"10 years of the greatest maps", slices.Repeat([]river.Map{blank(12, 12)}, 10), api.OK},
		{"11 years", slices.Repeat(years("W.E"), 11), api.ErrCount},
		{"11 years, and a wrong row", slices.Repeat([]river.Map{noRow}, 11), api.ErrCount},
		{"11 years, and one that is wider", append(slices.Repeat(years("W.E"), 10), drawn("W..E")), api.ErrCount},
		{"a wrong count", []river.Map{noCount}, api.ErrCount},
		{"a wrong kind", []river.Map{noValue}, api.ErrValue},
		{"a wrong row", []river.Map{noRow}, api.ErrFalse},
		{"a wrong count in the last year", []river.Map{ok, ok, noCount}, api.ErrCount},
		{"a wrong kind in the last year", []river.Map{ok, ok, noValue}, api.ErrValue},
		{"a wrong row in the last year", []river.Map{ok, ok, noRow}, api.ErrFalse},
		{"a wrong row, then a wrong count", []river.Map{noRow, noCount}, api.ErrFalse},
		{"a wrong row, then a wrong kind", []river.Map{ok, noRow, noValue}, api.ErrFalse},
		{"a wrong kind, then a wrong count", []river.Map{noValue, ok, noCount}, api.ErrValue},
		{"a wrong count, then a wrong row", []river.Map{noCount, noRow}, api.ErrCount},
		{"a wider year", years("W.E", "W..E"), api.ErrArg},
		{"a less wide year", years("W..E", "W.E"), api.ErrArg},
		{"a higher year", years("W.E", "W.E/W.E"), api.ErrArg},
		{"a less high year", years("W.E/W.E", "W.E"), api.ErrArg},
		{"a wider last year", years("W.E", "W.E", "W..E"), api.ErrArg},
		{"a wider year but the last", years("W.E", "W..E", "W.E"), api.ErrArg},
		{"years that are wider than the first one alike", years("W.E", "W..E", "W..E"), api.ErrArg},
		{"another width for as many cells", []river.Map{blank(4, 3), blank(3, 4)}, api.ErrArg},
		{"another height for as many cells", []river.Map{blank(3, 4), blank(12, 1)}, api.ErrArg},
		{"a wider year, then a wrong count", append(years("W.E", "W..E"), noCount), api.ErrCount},
		{"a wider year, then a wrong kind", append(years("W.E", "W..E"), noValue), api.ErrValue},
		{"a wider year, then a wrong row", append(years("W.E", "W..E"), noRow), api.ErrFalse},
		{"a wider year with a wrong row", years("W.E", "...E"), api.ErrFalse},
	} {
		expect(t, x.what, river.CheckYears(x.l), x.e)
	}
}

// wrongMaps are maps with each error that Check has.
func wrongMaps() map[api.Errno]river.Map {
	return map[api.Errno]river.Map{
		api.ErrCount: {Wide: 3, High: 1, Cells: list(1, 4)},
		api.ErrValue: {Wide: 3, High: 1, Cells: list(0, 4, 2)},
		api.ErrFalse: {Wide: 3, High: 1, Cells: list(0, 0, 2)},
	}
}

// Each function tells the errors of a map, or of years, first.
func TestErrorsOfMapsComeFirst(t *testing.T) {
	bad := arguments{shore: 3, cell: -1, year: -1, slow: -1, owner: -1, table: list(1, 2, 3, 4)}
	for e, m := range wrongMaps() {
		bad.m, bad.l = m, []river.Map{m}
		a := ask(bad)
		if a.errors != [12]api.Errno(slices.Repeat([]api.Errno{e}, 12)) || a.besidesErrors() {
			t.Error(m, a)
		}
	}
	bad.m, bad.l = drawn("W.E"), years("W.E", "W..E")
	for _, number := range ofYears {
		expect(t, "years of different widths", ask(bad).errors[number], api.ErrArg)
	}
	bad.l = nil
	for _, number := range ofYears {
		expect(t, "no years", ask(bad).errors[number], api.ErrCount)
	}
}

// Then they tell those of what else they are asked, in their order.
func TestErrorsInTheirOrder(t *testing.T) {
	for _, x := range []struct {
		what                           string
		shore, cell, year, slow, owner int
		table                          []int
		want                           [12]api.Errno
	}{
		{"all is wrong", 3, -1, -1, -1, -1, list(1, 2, 3, 4), [12]api.Errno{
			ofFar: api.ErrValue, ofHolds: api.ErrValue, ofWay: api.ErrValue, ofChanges: api.ErrArg,
			ofLaw: api.ErrValue, ofGains: api.ErrValue, ofLast: api.ErrValue, ofSlows: api.ErrArg}},
		{"all is too great", 3, 3, 1, 145, 4, nil, [12]api.Errno{
			ofFar: api.ErrValue, ofHolds: api.ErrValue, ofWay: api.ErrValue, ofChanges: api.ErrArg,
			ofLaw: api.ErrValue, ofGains: api.ErrValue, ofLast: api.ErrValue, ofSlows: api.ErrArg}},
		{"the shore and slow are right", 1, -1, 0, 0, -1, nil, [12]api.Errno{
			ofHolds: api.ErrCount, ofWay: api.ErrArg, ofLast: api.ErrArg, ofSlows: api.ErrArg}},
		{"the cell is right, but land", 2, 0, 0, 144, -1, list(0, 0, 0), [12]api.Errno{
			ofWay: api.ErrNone, ofSlows: api.ErrValue}},
		{"all is right", 2, 1, 0, 144, 0, list(0, 0, 0), [12]api.Errno{}},
	} {
		a := ask(arguments{drawn("W.E"), years("W.E"), x.shore, x.cell, x.year, x.slow, x.owner, x.table})
		if a.errors != x.want || a.besidesErrors() {
			t.Error(x.what, a)
		}
	}
}

// P5.2: there are two shores.
func TestErrorsOfShores(t *testing.T) {
	m := drawn("W.IE")
	for _, shore := range list(-1, 0, 3, 4, math.MinInt, math.MaxInt) {
		a := ask(arguments{m: m, shore: shore, cell: 1, table: list(0, 1, 2, -1)})
		for _, number := range list(ofFar, ofHolds, ofWay) {
			expect(t, "no shore", a.errors[number], api.ErrValue)
		}
		if a.besidesErrors() {
			t.Error(shore, a)
		}
	}
}

// P5.2: a table has a number for each cell.
func TestErrorsOfTables(t *testing.T) {
	for _, x := range []struct {
		table []int
		e     api.Errno
	}{
		{list(0, 1, 2, -1), api.OK},
		{nil, api.ErrCount},
		{list(0, 1, 2), api.ErrCount},
		{list(0, 1, 2, -1, -1), api.ErrCount},
		{list(0, 1, 2, -1, 0, 1, 2, -1), api.ErrCount},
		{make([]int, 144), api.ErrCount},
	} {
		is, e := river.Holds(drawn("W.IE"), river.West, x.table)
		if is != (x.e == api.OK) || e != x.e {
			t.Error(x.table, is, e)
		}
	}
}

// P5.2: to which cells no way leads.
func TestErrorsOfWays(t *testing.T) {
	m := drawn("WI.I.E / WIIIWE")
	for _, x := range []struct {
		shore, cell int
		e           api.Errno
	}{
		{river.West, 0, api.ErrNone}, // land of the shore
		{river.East, 5, api.ErrNone},
		{river.West, 10, api.ErrNone},
		{river.East, 0, api.ErrNone}, // land of the other one
		{river.West, 5, api.ErrNone},
		{river.East, 10, api.ErrNone},
		{river.West, 2, api.ErrNone}, // a pond
		{river.East, 2, api.ErrNone},
		{river.East, 1, api.ErrNone}, // an island behind another one
		{river.West, 1, api.OK},
		{river.West, 4, api.OK},
		{river.East, 4, api.OK},
		{river.West, 3, api.OK},
		{river.West, -1, api.ErrArg},
		{river.West, 12, api.ErrArg},
		{river.East, 144, api.ErrArg},
		{river.East, math.MaxInt, api.ErrArg},
		{river.East, math.MinInt, api.ErrArg},
	} {
		way, e := river.Way(m, x.shore, x.cell)
		if e != x.e || (e == api.OK) != (len(way) > 0) {
			t.Error(x, way, e)
		}
	}
}

// P5.4: there are only some years.
func TestErrorsOfYears(t *testing.T) {
	for _, x := range []struct {
		many, year int
		e          api.Errno
	}{
		{1, 0, api.OK}, {1, 1, api.ErrArg}, {1, -1, api.ErrArg},
		{3, 0, api.OK}, {3, 2, api.OK}, {3, 3, api.ErrArg}, {3, -1, api.ErrArg},
		{10, 9, api.OK}, {10, 10, api.ErrArg}, {10, math.MaxInt, api.ErrArg}, {10, math.MinInt, api.ErrArg},
	} {
		if l, e := river.Changes(slices.Repeat(years("W.E"), x.many), x.year); e != x.e || len(l) > 0 {
			t.Error(x, l, e)
		}
	}
}

// P5.4, P5.5: which numbers can be asked for slow, for a cell, and for an owner.
func TestErrorsOfNumbers(t *testing.T) {
	l := years("W.E/W.E", "WIE/WIE")
	for _, slow := range list(-1, 145, 146, math.MaxInt, math.MinInt) {
		a := ask(arguments{m: l[0], l: l, shore: 1, cell: 1, slow: slow})
		if a.errors != [12]api.Errno{ofHolds: api.ErrCount, ofLaw: api.ErrValue, ofGains: api.ErrValue, ofLast: api.ErrValue} || a.besidesErrors() {
			t.Error(slow, a)
		}
	}
	for _, slow := range list(0, 1, 2, 36, 143, 144) {
		if a := ask(arguments{m: l[0], l: l, shore: 1, cell: 1, slow: slow}); a.errors != [12]api.Errno{ofHolds: api.ErrCount} {
			t.Error(slow, a)
		}
	}
	for _, cell := range list(-1, 6, 7, 144, math.MaxInt, math.MinInt) {
		a := ask(arguments{m: l[0], l: l, shore: 1, cell: cell, table: make([]int, 6)})
		if a.errors != [12]api.Errno{ofWay: api.ErrArg, ofLast: api.ErrArg, ofSlows: api.ErrArg} || a.besidesErrors() {
			t.Error(cell, a)
		}
	}
	for _, owner := range list(-1, 4, 5, math.MaxInt, math.MinInt) {
		if s, e := river.Slows(l, 5, owner); e != api.ErrValue || len(s) > 0 {
			t.Error(owner, s, e)
		}
	}
	for owner := range 4 {
		for _, cell := range list(0, 5) {
			_, e := river.Slows(l, cell, owner)
			expect(t, "an owner and a cell", e, api.OK)
		}
	}
}
