package sheet_test

import (
	"math"
	"slices"
	"testing"

	"limitrophe/api"
	"limitrophe/sheet"
)

// changed returns the set of example 1 but for a change.
func changed(change func(s *sheet.Set)) sheet.Set {
	s := three()
	change(&s)
	return s
}

// changedJoint returns it but for a change of its second joint.
func changedJoint(change func(j *sheet.Joint)) sheet.Set {
	return changed(func(s *sheet.Set) { change(&s.Joints[1]) })
}

// many makes so many joints between the first two sheets, and none so many that have the first sheet twice.
func many(joints int) []sheet.Joint { return slices.Repeat([]sheet.Joint{joint(1, 0, 7, -7)}, joints) }
func none(joints int) []sheet.Joint { return make([]sheet.Joint, joints) }

// P10.1: which sets are valid, up to each limit and one beyond it. All functions of a set say so.
func TestErrorsOfSets(t *testing.T) {
	for _, x := range []struct {
		what string
		s    sheet.Set
		e    api.Errno
	}{
		{"example 1", three(), api.OK},
		{"one sheet", set(1), api.OK},
		{"12 sheets", set(12), api.OK},
		{"no joints", changed(func(s *sheet.Set) { s.Joints = nil }), api.OK},
		{"40 joints", set(2, many(40)...), api.OK},
		{"from the last sheet, and to it", set(12, joint(11, 0, 1, 1), joint(0, 11, 1, 1)), api.OK},
		{"all that a joint can say at most", set(2, joint(0, 1, 1000000, 1000000)), api.OK},
		{"all that it can say at least", set(2, joint(0, 1, -1000000, -1000000)), api.OK},
		{"nothing", sheet.Set{}, api.ErrCount},
		{"no sheets", changed(func(s *sheet.Set) { s.Sheets = 0 }), api.ErrCount},
		{"fewer sheets than none", changed(func(s *sheet.Set) { s.Sheets = -1 }), api.ErrCount},
		{"13 sheets", changed(func(s *sheet.Set) { s.Sheets = 13 }), api.ErrCount},
		{"the fewest sheets there are", changed(func(s *sheet.Set) { s.Sheets = math.MinInt }), api.ErrCount},
		{"the most sheets there are", changed(func(s *sheet.Set) { s.Sheets = math.MaxInt }), api.ErrCount},
		{"41 joints", set(2, many(41)...), api.ErrCount},
		{"41 joints that are none", set(2, none(41)...), api.ErrCount},
		{"40 joints that are none", set(2, none(40)...), api.ErrArg},
		{"no sheets, and a joint", set(0, joint(0, 1, 0, 0)), api.ErrCount},
		{"from a sheet beyond the last one", changedJoint(func(j *sheet.Joint) { j.A = 3 }), api.ErrArg},
		{"from a sheet below the first one", changedJoint(func(j *sheet.Joint) { j.A = -1 }), api.ErrArg},
		{"to a sheet beyond the last one", changedJoint(func(j *sheet.Joint) { j.B = 3 }), api.ErrArg},
		{"to a sheet below the first one", changedJoint(func(j *sheet.Joint) { j.B = -1 }), api.ErrArg},
		{"to the greatest sheet there is", changedJoint(func(j *sheet.Joint) { j.B = math.MaxInt }), api.ErrArg},
		{"from the least sheet there is", changedJoint(func(j *sheet.Joint) { j.A = math.MinInt }), api.ErrArg},
		{"a sheet twice", changedJoint(func(j *sheet.Joint) { j.B = j.A }), api.ErrArg},
		{"the last joint has a sheet twice", changed(func(s *sheet.Set) { s.Joints[2] = joint(2, 2, 0, 0) }), api.ErrArg},
		{"a joint of one sheet", set(1, joint(0, 0, 0, 0)), api.ErrArg},
		{"to no sheet, and too far", changedJoint(func(j *sheet.Joint) { j.B, j.X = 3, 1000001 }), api.ErrArg},
		{"to no sheet, behind a joint that says too much", changed(func(s *sheet.Set) { s.Joints[0].X, s.Joints[2].B = 1000001, 3 }), api.ErrArg},
		{"a sheet twice, behind a joint that says too much", changed(func(s *sheet.Set) { s.Joints[0].Y, s.Joints[2].B = -1000001, 0 }), api.ErrArg},
		{"too far to the east", changedJoint(func(j *sheet.Joint) { j.X = 1000001 }), api.ErrValue},
		{"too far to the west", changedJoint(func(j *sheet.Joint) { j.X = -1000001 }), api.ErrValue},
		{"too far to the north", changedJoint(func(j *sheet.Joint) { j.Y = 1000001 }), api.ErrValue},
		{"too far to the south", changedJoint(func(j *sheet.Joint) { j.Y = -1000001 }), api.ErrValue},
		{"as far to the east as there is", changedJoint(func(j *sheet.Joint) { j.X = math.MaxInt }), api.ErrValue},
		{"as far to the south as there is", changedJoint(func(j *sheet.Joint) { j.Y = math.MinInt }), api.ErrValue},
		{"the last joint says too much", changed(func(s *sheet.Set) { s.Joints[2].Y = 1000001 }), api.ErrValue},
	} {
		a := ask(arguments{s: x.s, shifts: wholes(9), round: round(), a: -1})
		want := api.ErrArg
		if x.e != api.OK {
			want = x.e
		}
		for _, number := range []int{ofCheck, ofTied, ofPlay, ofShifts} {
			expect(t, x.what, a.errors[number], x.e)
		}
		if x.e != api.OK {
			expect(t, x.what, a.errors[ofWorst], x.e)
			expect(t, x.what, a.errors[ofProves], x.e)
			expect(t, x.what, a.errors[ofNeeds], x.e)
		}
		expect(t, x.what, a.errors[ofBetween], want)
		if a.besidesErrors() {
			t.Error(x.what, a)
		}
	}
}

// P10.2: how many shifts there must be, and which ones are allowed, in the order of errors.
func TestErrorsOfShifts(t *testing.T) {
	last := func(x sheet.Shift) []sheet.Shift { return append(wholes(0, 12), x) }
	east := func(n, d int) []sheet.Shift { return last(sheet.Shift{X: ratio(n, d), Y: whole(0)}) }
	north := func(n, d int) []sheet.Shift { return last(sheet.Shift{X: whole(0), Y: ratio(n, d)}) }
	for _, x := range []struct {
		what   string
		shifts []sheet.Shift
		e      api.Errno
	}{
		{"those of the example", wholes(0, 12, 34), api.OK},
		{"the greatest D", east(7, 1000), api.OK},
		{"the greatest D to the north", north(7, 1000), api.OK},
		{"the greatest N", east(1000000000, 1), api.OK},
		{"the least N to the north", north(-1000000000, 1), api.OK},
		{"none", nil, api.ErrArg},
		{"too few", wholes(0, 12), api.ErrArg},
		{"too many", wholes(0, 12, 34, 34), api.ErrArg},
		{"too few, and one that is not allowed", eastward(whole(0), ratio(1, 0)), api.ErrArg},
		{"too many, and one that is not allowed", append(east(1, 0), sheet.Shift{X: whole(0), Y: whole(0)}), api.ErrArg},
		{"a shift that is nothing", last(sheet.Shift{}), api.ErrValue},
		{"no D", east(7, 0), api.ErrValue},
		{"no D to the north", north(7, 0), api.ErrValue},
		{"a D below 0", east(7, -1), api.ErrValue},
		{"a D below 0 to the north", north(7, -1), api.ErrValue},
		{"the D 1001", east(7, 1001), api.ErrValue},
		{"the D 1001 to the north", north(7, 1001), api.ErrValue},
		{"the D 1002, not in lowest terms", east(1002, 1002), api.ErrValue},
		{"the greatest D there is", east(7, math.MaxInt), api.ErrValue},
		{"the least D there is", north(7, math.MinInt), api.ErrValue},
		{"an N that is too great", east(1000000001, 1), api.ErrValue},
		{"an N that is too great, of much less", east(1000000001, 1000), api.ErrValue},
		{"an N that is too great to the north", north(1000000001, 1), api.ErrValue},
		{"an N that is too little", east(-1000000001, 1), api.ErrValue},
		{"an N that is too little to the north", north(-1000000001, 1), api.ErrValue},
		{"the greatest N there is", north(math.MaxInt, 1), api.ErrValue},
		{"the least N there is", east(math.MinInt, 1), api.ErrValue},
		{"the first one is not allowed", eastward(ratio(1, 0), whole(12), whole(34)), api.ErrValue},
	} {
		needs, e := sheet.Needs(three(), x.shifts)
		expect(t, x.what, e, x.e)
		if e != api.OK && needs != (api.Ratio{}) {
			t.Error(x.what, needs)
		}
	}
}

// P10.3: how many legs a round can have, and which ones, in the order of errors.
func TestErrorsOfRounds(t *testing.T) {
	for _, x := range []struct {
		what string
		legs []sheet.Leg
		e    api.Errno
	}{
		{"a round", legs(1, 2, -3), api.OK},
		{"two legs", legs(3, -3), api.OK},
		{"60 legs", slices.Repeat(legs(1, 2, -3), 20), api.OK},
		{"one leg", legs(1), api.ErrFalse},
		{"none", nil, api.ErrCount},
		{"61 legs", slices.Repeat(legs(1), 61), api.ErrCount},
		{"62 legs, a round", slices.Repeat(legs(1, -1), 31), api.ErrCount},
		{"61 legs, of joints that there are not", slices.Repeat(legs(9), 61), api.ErrCount},
		{"beyond the last joint", legs(1, 2, -3, 4), api.ErrArg},
		{"back beyond the last joint", legs(1, 2, -4), api.ErrArg},
		{"below the first joint", []sheet.Leg{{Joint: -1}}, api.ErrArg},
		{"below the first joint, back", []sheet.Leg{{Joint: 0}, {Joint: -1, Back: true}}, api.ErrArg},
		{"the greatest joint there is", []sheet.Leg{{Joint: math.MaxInt}}, api.ErrArg},
		{"the least joint there is", []sheet.Leg{{Joint: 0}, {Joint: math.MinInt}}, api.ErrArg},
		{"beyond the last joint, and no round", legs(1, 1, 4), api.ErrArg},
		{"beyond the last joint, ahead of what is no round", legs(4, 1, 1), api.ErrArg},
		{"no round", legs(1, 1), api.ErrFalse},
	} {
		for _, isNorth := range []bool{false, true} {
			proved, e := sheet.Proves(three(), sheet.Round{North: isNorth, Legs: x.legs})
			expect(t, x.what, e, x.e)
			if e != api.OK && proved != (api.Ratio{}) {
				t.Error(x.what, proved)
			}
		}
	}
	_, e := sheet.Proves(set(3), round(1))
	expect(t, "a leg without joints", e, api.ErrArg)
	_, e = sheet.Proves(set(3), round())
	expect(t, "no legs without joints", e, api.ErrCount)
}

// P10.4: which sheets and plays are allowed, in the order of errors.
func TestErrorsOfBetween(t *testing.T) {
	loose := set(3, joint(0, 1, 1, 1), joint(0, 1, 5, 1))
	for _, x := range []struct {
		what string
		s    sheet.Set
		a, b int
		play api.Ratio
		e    api.Errno
	}{
		{"enough play", three(), 0, 2, whole(3), api.OK},
		{"just enough", three(), 0, 2, whole(2), api.OK},
		{"just enough, as other numbers", three(), 0, 2, ratio(2000, 1000), api.OK},
		{"the greatest play", three(), 0, 2, whole(1000000000), api.OK},
		{"below the first sheet", three(), -1, 0, whole(3), api.ErrArg},
		{"beyond the last sheet", three(), 3, 0, whole(3), api.ErrArg},
		{"to below the first sheet", three(), 0, -1, whole(3), api.ErrArg},
		{"to beyond the last sheet", three(), 0, 3, whole(3), api.ErrArg},
		{"the greatest sheet there is", three(), 0, math.MaxInt, whole(3), api.ErrArg},
		{"the least sheet there is", three(), math.MinInt, 0, whole(3), api.ErrArg},
		{"a sheet that there is not, and itself", three(), 3, 3, whole(3), api.ErrArg},
		{"a sheet that there is not, with a play that is not allowed", three(), 3, 0, ratio(3, 0), api.ErrArg},
		{"a sheet that there is not, with too little play", three(), 0, 3, whole(1), api.ErrArg},
		{"no D", three(), 0, 2, ratio(3, 0), api.ErrValue},
		{"a D below 0", three(), 0, 2, ratio(3, -1), api.ErrValue},
		{"both below 0", three(), 0, 2, ratio(-3, -1), api.ErrValue},
		{"the D 1001", three(), 0, 2, ratio(9999, 1001), api.ErrValue},
		{"the greatest D there is", three(), 0, 2, ratio(9999, math.MaxInt), api.ErrValue},
		{"the least D there is", three(), 0, 2, ratio(9999, math.MinInt), api.ErrValue},
		{"a play below 0", three(), 0, 2, whole(-1), api.ErrValue},
		{"a play that is too great", three(), 0, 2, whole(1000000001), api.ErrValue},
		{"an N that is too great, of much less", three(), 0, 2, ratio(1000000001, 1000), api.ErrValue},
		{"the greatest N there is", three(), 0, 2, whole(math.MaxInt), api.ErrValue},
		{"the least N there is", three(), 0, 2, whole(math.MinInt), api.ErrValue},
		{"a play that is not allowed, and no tie", loose, 0, 2, whole(-1), api.ErrValue},
		{"no play", three(), 0, 2, whole(0), api.ErrClash},
		{"a play just below the least one", three(), 0, 2, ratio(1999, 1000), api.ErrClash},
		{"too little play for a sheet and itself", three(), 1, 1, whole(1), api.ErrClash},
		{"too little play for others, for a sheet that is not tied, and itself", loose, 2, 2, whole(1), api.ErrClash},
		{"too little play, and no tie", loose, 0, 2, whole(1), api.ErrClash},
		{"too little play to the north alone", set(2, joint(0, 1, 0, 1), joint(0, 1, 0, 3)), 0, 1, ratio(9, 10), api.ErrClash},
		{"enough play, and no tie", loose, 0, 2, whole(2), api.ErrNone},
		{"enough play, and no tie the other way", loose, 2, 1, whole(2), api.ErrNone},
		{"no play, and no joints", set(2), 0, 1, whole(0), api.ErrNone},
	} {
		east, north, e := sheet.Between(x.s, x.a, x.b, x.play)
		expect(t, x.what, e, x.e)
		if e != api.OK && (east != sheet.Bounds{} || north != sheet.Bounds{}) {
			t.Error(x.what, east, north)
		}
	}
}

// P10.5: which edges are allowed, in the order of errors. All functions of edges say so, whichever edge it is.
func TestErrorsOfEdges(t *testing.T) {
	for _, x := range []struct {
		what string
		a, b []sheet.Mark
		play int
		e    api.Errno
	}{
		{"example 4", edge(), facing(), 11, api.OK},
		{"no marks", nil, nil, 0, api.OK},
		{"30 marks", evenly(30, 1, 0), evenly(30, 1, 20), 1000000, api.OK},
		{"at both ends", marks(-1000000, 0, 1000000, 20), nil, 0, api.OK},
		{"31 marks", evenly(31, 1, 0), nil, 0, api.ErrCount},
		{"31 marks, with kinds that are not allowed", evenly(31, 1, 21), nil, 0, api.ErrCount},
		{"31 marks, and a kind that is not allowed", marks(0, 21), evenly(31, 1, 0), 0, api.ErrCount},
		{"31 marks, and a play that is not allowed", nil, evenly(31, 1, 0), -1, api.ErrCount},
		{"31 marks that are not in order", nil, evenly(31, -1, 0), 0, api.ErrCount},
		{"the kind 21", marks(0, 20, 1, 21), nil, 0, api.ErrValue},
		{"the kind -1", marks(0, -1, 1, 0), nil, 0, api.ErrValue},
		{"the greatest kind there is", marks(0, math.MaxInt), nil, 0, api.ErrValue},
		{"the least kind there is", marks(0, math.MinInt), nil, 0, api.ErrValue},
		{"beyond the end", marks(0, 1, 1000001, 1), nil, 0, api.ErrValue},
		{"beyond the other end", marks(-1000001, 1), nil, 0, api.ErrValue},
		{"the farthest place there is", marks(math.MaxInt, 1), nil, 0, api.ErrValue},
		{"the farthest place there is the other way", marks(math.MinInt, 1, 0, 1), nil, 0, api.ErrValue},
		{"a play below 0", edge(), facing(), -1, api.ErrValue},
		{"a play that is too great", edge(), facing(), 1000001, api.ErrValue},
		{"the greatest play there is", edge(), facing(), math.MaxInt, api.ErrValue},
		{"the least play there is", edge(), facing(), math.MinInt, api.ErrValue},
		{"a play below 0, and no marks", nil, nil, -1, api.ErrValue},
		{"a kind that is not allowed, and no order", marks(5, 0, 5, 21), nil, 0, api.ErrValue},
		{"no order, and a kind that is not allowed", marks(5, 0, 5, 0), marks(0, 21), 0, api.ErrValue},
		{"no order, and a play that is not allowed", marks(5, 0, 5, 0), nil, -1, api.ErrValue},
		{"a place twice", marks(5, 0, 5, 0), nil, 0, api.ErrOrder},
		{"a place twice, with two kinds", marks(4, 0, 5, 0, 5, 1), nil, 0, api.ErrOrder},
		{"places that decrease", marks(5, 0, 4, 0), edge(), 0, api.ErrOrder},
		{"the last place is less", marks(5, 0, 6, 0, -7, 0), edge(), 0, api.ErrOrder},
	} {
		for _, y := range []arguments{{edge: x.a, other: x.b}, {edge: x.b, other: x.a}} {
			y.most, y.list, y.levels = x.play, pairs(-1, 0), rows(40, 40, -1)
			a := ask(y)
			want := x.e
			if x.e == api.OK {
				want = api.ErrArg
			}
			expect(t, x.what, a.errors[ofMatch], x.e)
			expect(t, x.what, a.errors[ofLevels], x.e)
			expect(t, x.what, a.errors[ofMatches], want)
			expect(t, x.what, a.errors[ofBars], want)
			if a.besidesErrors() {
				t.Error(x.what, a)
			}
		}
	}
}

// P10.5: which pairs can be asked about, whether they are a match or not.
func TestErrorsOfPairs(t *testing.T) {
	for _, x := range []struct {
		what string
		list []sheet.Pair
		e    api.Errno
	}{
		{"the first marks", pairs(0, 0), api.OK},
		{"the last marks", pairs(2, 2), api.OK},
		{"many pairs", slices.Repeat(pairs(0, 1), 100), api.OK},
		{"beyond the one edge", pairs(3, 0), api.ErrArg},
		{"beyond the other edge", pairs(0, 3), api.ErrArg},
		{"below the one edge", pairs(-1, 0), api.ErrArg},
		{"below the other edge", pairs(0, -1), api.ErrArg},
		{"behind a match", pairs(0, 1, 1, 2, 3, 3), api.ErrArg},
		{"behind what is no match", pairs(0, 0, 0, 0, 0, 3), api.ErrArg},
		{"ahead of what is no match", pairs(0, 3, 0, 0), api.ErrArg},
		{"the greatest number there is", pairs(math.MaxInt, 0), api.ErrArg},
		{"the least number there is", pairs(0, math.MinInt), api.ErrArg},
	} {
		is, e := sheet.Matches(edge(), facing(), 11, x.list)
		expect(t, x.what, e, x.e)
		if e != api.OK && is {
			t.Error(x.what)
		}
	}
	_, e := sheet.Matches(edge(), nil, 11, pairs(0, 0))
	expect(t, "a pair of no mark", e, api.ErrArg)
	_, e = sheet.Matches(nil, facing(), 11, pairs(0, 0))
	expect(t, "a pair of no mark of the one edge", e, api.ErrArg)
	is, e := sheet.Matches(edge(), facing()[:2], 11, pairs(2, 1))
	if !is || e != api.OK {
		t.Error("edges of two lengths:", is, e)
	}
	_, e = sheet.Matches(edge(), facing()[:2], 11, pairs(1, 2))
	expect(t, "a number that is one of the one edge alone", e, api.ErrArg)
}

// P10.5: which numbers can be asked about, whether they are levels or not, in the order of errors.
func TestErrorsOfLevels(t *testing.T) {
	with := func(a, b, level int) [][]int {
		levels := [][]int{{0, 1, 0}, {1, 0, 2}, {0, 2, 0}}
		levels[a][b] = level
		return levels
	}
	short := func(a, many int) [][]int {
		levels := with(2, 2, 31)
		levels[a] = make([]int, many)
		return levels
	}
	for _, x := range []struct {
		what   string
		levels [][]int
		e      api.Errno
	}{
		{"levels", with(0, 0, 0), api.OK},
		{"the greatest level", with(1, 2, 30), api.OK},
		{"no rows", nil, api.ErrArg},
		{"too few rows", with(0, 0, 31)[:2], api.ErrArg},
		{"too many rows", append(with(0, 0, 31), []int{0, 0, 0}), api.ErrArg},
		{"too few numbers in the first row", short(0, 2), api.ErrArg},
		{"too many numbers in a row", short(1, 4), api.ErrArg},
		{"no numbers in the last row", short(2, 0), api.ErrArg},
		{"beyond the greatest level", with(1, 2, 31), api.ErrValue},
		{"below the least level", with(0, 0, -1), api.ErrValue},
		{"the greatest number there is", with(0, 1, math.MaxInt), api.ErrValue},
		{"the least number there is", with(2, 2, math.MinInt), api.ErrValue},
		{"beyond the greatest level, behind what are no levels", [][]int{{1, 1, 1}, {1, 1, 1}, {1, 1, 31}}, api.ErrValue},
		{"no levels", with(0, 0, 1), api.ErrFalse},
	} {
		bars, e := sheet.Bars(edge(), facing(), 11, x.levels)
		expect(t, x.what, e, x.e)
		if e != api.OK && bars != 0 {
			t.Error(x.what, bars)
		}
	}
	_, e := sheet.Bars(edge(), facing()[:2], 11, rows(2, 3, 0))
	expect(t, "the edges changed over", e, api.ErrArg)
	_, e = sheet.Bars(nil, facing(), 11, rows(1, 3, 0))
	expect(t, "a row of no mark", e, api.ErrArg)
	_, e = sheet.Bars(edge(), nil, 11, nil)
	expect(t, "no rows of marks", e, api.ErrArg)
}
