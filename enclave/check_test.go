package enclave_test

import (
	"math"
	"slices"
	"testing"

	"limitrophe/api"
	"limitrophe/enclave"
)

// mapErrors returns what the functions of maps answer as an error, in the order in which the chapter declares them.
func mapErrors(m enclave.Map, region, without int, way []int) [7]api.Errno {
	a := ask(arguments{m: m, region: region, without: without, way: way})
	return [7]api.Errno(a.errors[ofCheck : ofClear+1])
}

// P8.1: which maps are valid, up to each limit and one beyond it; a count comes ahead of a value. All functions of maps say so.
func TestErrorsOfMaps(t *testing.T) {
	owned := func(wide int, owners ...int) enclave.Map { return enclave.Map{Wide: wide, Owners: owners} }
	for _, x := range []struct {
		what string
		m    enclave.Map
		e    api.Errno
	}{
		{"example 1", plan(ringed), api.OK},
		{"one plot", owned(1, 0), api.OK},
		{"one plot of the last state", owned(1, 9), api.OK},
		{"100 plots in a row", owned(100, make([]int, 100)...), api.OK},
		{"100 plots in a column", owned(1, make([]int, 100)...), api.OK},
		{"100 plots in rows", owned(20, make([]int, 100)...), api.OK},
		{"all states", owned(5, 0, 1, 2, 3, 4, 5, 6, 7, 8, 9), api.OK},
		{"nothing", enclave.Map{}, api.ErrCount},
		{"no plots", owned(1), api.ErrCount},
		{"101 plots in a row", owned(101, make([]int, 101)...), api.ErrCount},
		{"101 plots in a column", owned(1, make([]int, 101)...), api.ErrCount},
		{"a row of no plots", owned(0, 1), api.ErrCount},
		{"a row of less than no plots", owned(-1, 1), api.ErrCount},
		{"the least row there is", owned(math.MinInt, 1, 1), api.ErrCount},
		{"the widest row there is", owned(math.MaxInt, 1, 1), api.ErrCount},
		{"half a row", owned(4, 1, 1), api.ErrCount},
		{"a row and a half", owned(4, 1, 1, 1, 1, 1, 1), api.ErrCount},
		{"a row, and a plot less than two", owned(4, 1, 1, 1, 1, 1, 1, 1), api.ErrCount},
		{"a state beyond the last one", owned(1, 10), api.ErrValue},
		{"a state below the first one", owned(1, -1), api.ErrValue},
		{"the first of many plots without a state", owned(2, -1, 0, 0, 0), api.ErrValue},
		{"the last of many plots without a state", owned(2, 0, 0, 0, 10), api.ErrValue},
		{"the least state there is", owned(1, math.MinInt), api.ErrValue},
		{"the greatest state there is", owned(1, math.MaxInt), api.ErrValue},
		{"half a row, and no state", owned(2, -1), api.ErrCount},
		{"too many plots, and no state", owned(1, slices.Repeat(list(10), 101)...), api.ErrCount},
		{"no row, and no state", owned(0, -1), api.ErrCount},
	} {
		if x.e != api.OK {
			want := [7]api.Errno{x.e, x.e, x.e, x.e, x.e, x.e, x.e}
			if got := mapErrors(x.m, -1, -1, list(-1)); got != want {
				t.Error(x.what, got)
			}
			continue
		}
		if got := mapErrors(x.m, -1, 0, nil); got != [7]api.Errno{ofOut: api.ErrArg, ofLeads: api.ErrArg, ofGive: api.ErrArg} {
			t.Error(x.what, got)
		}
	}
}

// P8.2: of which numbers a way can be asked for: first regions, then plots.
func TestErrorsOfWays(t *testing.T) {
	for _, x := range []struct {
		what            string
		region, without int
		way             []int
		out, leads      api.Errno
	}{
		{"a way", 1, 2, list(6, 1), api.OK, api.OK},
		{"no way", 1, 2, nil, api.OK, api.OK},
		{"the first and the last plot", 1, 2, list(0, 24), api.OK, api.OK},
		{"none to be had", 2, 1, list(12), api.ErrNone, api.OK},
		{"none to be had, and no plot", 2, 1, list(25), api.ErrNone, api.ErrArg},
		{"a plot beyond the last one", 1, 2, list(6, 1, 25), api.OK, api.ErrArg},
		{"a plot beyond the last one at first", 1, 2, list(25, 6, 1), api.OK, api.ErrArg},
		{"a plot below the first one", 1, 2, list(6, -1), api.OK, api.ErrArg},
		{"the least plot there is", 1, 2, list(math.MinInt), api.OK, api.ErrArg},
		{"the greatest plot there is", 1, 2, list(math.MaxInt), api.OK, api.ErrArg},
		{"a region beyond the last one", 3, 0, list(6, 1), api.ErrArg, api.ErrArg},
		{"a region below the first one", -1, 0, list(6, 1), api.ErrArg, api.ErrArg},
		{"without one beyond the last one", 0, 3, list(0), api.ErrArg, api.ErrArg},
		{"without none", 0, none, list(0), api.ErrArg, api.ErrArg},
		{"without itself", 0, 0, list(0), api.ErrArg, api.ErrArg},
		{"without itself, far inside", 2, 2, list(12), api.ErrArg, api.ErrArg},
		{"neither is a region", -1, 3, list(12), api.ErrArg, api.ErrArg},
		{"the greatest region there is", math.MaxInt, math.MinInt, list(25), api.ErrArg, api.ErrArg},
	} {
		a := ask(arguments{m: plan(ringed), region: x.region, without: x.without, way: x.way})
		if a.errors[ofOut] != x.out || a.errors[ofLeads] != x.leads || a.besidesErrors() {
			t.Error(x.what, a)
		}
	}
}

// P8.3: whose deed can be made.
func TestErrorsOfDeeds(t *testing.T) {
	for _, x := range []struct {
		what   string
		m      enclave.Map
		region int
		e      api.Errno
	}{
		{"an enclave", plan(ringed), 1, api.OK},
		{"an enclave within it", plan(ringed), 2, api.OK},
		{"one at the rim", plan(ringed), 0, api.ErrState},
		{"one that is not at the rim, and gets out", plan("010 121 020"), 4, api.ErrState},
		{"one that is not at the rim, and gets out over one plot", plan("0000 0110 0121 0110 0000"), 3, api.ErrState},
		{"the only one", plan("5"), 0, api.ErrState},
		{"beyond the last one", plan(ringed), 3, api.ErrArg},
		{"below the first one", plan(ringed), -1, api.ErrArg},
		{"the greatest one there is", plan(ringed), math.MaxInt, api.ErrArg},
		{"the least one there is", plan(ringed), math.MinInt, api.ErrArg},
	} {
		m, e := enclave.Give(x.m, x.region)
		expect(t, x.what, e, x.e)
		if e != api.OK && (m.Wide != 0 || m.Owners != nil) {
			t.Error(x.what, m)
		}
	}
}

// changed returns a land that is the one of example 4 but for a change.
func changed(change func(l *enclave.Land)) enclave.Land {
	l := square()
	change(&l)
	return l
}

// landCase is a land, and the error that it has.
type landCase struct {
	what string
	l    enclave.Land
	e    api.Errno
}

// expectOfLands reports functions of lands that answer another error than that of a land.
func expectOfLands(t *testing.T, cases []landCase) {
	t.Helper()
	for _, x := range cases {
		a := ask(arguments{l: x.l, owners: list(5), walks: make([]enclave.Walk, 2001)})
		want := [5]api.Errno{x.e, x.e, x.e, x.e, x.e}
		if x.e == api.OK {
			want = [5]api.Errno{api.OK, api.ErrArg, api.OK, api.OK, api.ErrCount}
		}
		if [5]api.Errno(a.errors[ofCheckLand:]) != want || a.besidesErrors() {
			t.Error(x.what, a)
		}
	}
}

// hundred returns a land of 100 plots, of which the first and the last one are not disputed.
func hundred(wide int) enclave.Land {
	l := enclave.Land{Wide: wide, Owners: slices.Repeat(list(none), 100), East: make([]int, 100), South: make([]int, 100)}
	l.Owners[99], l.Owners[0] = 0, 1
	return l
}

// P8.4: which lands are valid, up to each limit, and those that have not as many plots or numbers as they need.
func TestCountsOfLands(t *testing.T) {
	expectOfLands(t, []landCase{
		{"example 3", row(), api.OK},
		{"example 4", square(), api.OK},
		{"no plot is disputed", changed(func(l *enclave.Land) { l.Owners = list(0, 1, 0, 1) }), api.OK},
		{"two plots", land("10", list(1000, 0), list(0, 0)), api.OK},
		{"100 plots in a row", hundred(100), api.OK},
		{"100 plots in a column", hundred(1), api.OK},
		{"as many houses as there can be", settle("0.1 ..."), api.OK},
		{"as many houses as there can be, in a column", land("0 . 1", make([]int, 3), list(1000, 1000, 0)), api.OK},
		{"nothing", enclave.Land{}, api.ErrCount},
		{"no plots", enclave.Land{Wide: 1}, api.ErrCount},
		{"101 plots", enclave.Land{Wide: 101, Owners: make([]int, 101), East: make([]int, 101), South: make([]int, 101)}, api.ErrCount},
		{"half a row", changed(func(l *enclave.Land) { l.Wide = 8 }), api.ErrCount},
		{"a row and a third", changed(func(l *enclave.Land) { l.Wide = 3 }), api.ErrCount},
		{"a row of no plots", changed(func(l *enclave.Land) { l.Wide = 0 }), api.ErrCount},
		{"the least row there is", changed(func(l *enclave.Land) { l.Wide = math.MinInt }), api.ErrCount},
		{"the widest row there is", changed(func(l *enclave.Land) { l.Wide = math.MaxInt }), api.ErrCount},
		{"nothing to the east", changed(func(l *enclave.Land) { l.East = nil }), api.ErrCount},
		{"nothing to the south", changed(func(l *enclave.Land) { l.South = nil }), api.ErrCount},
		{"too few to the east", changed(func(l *enclave.Land) { l.East = l.East[:3] }), api.ErrCount},
		{"too few to the south", changed(func(l *enclave.Land) { l.South = l.South[:3] }), api.ErrCount},
		{"too many to the east", changed(func(l *enclave.Land) { l.East = append(l.East, 0) }), api.ErrCount},
		{"too many to the south", changed(func(l *enclave.Land) { l.South = append(l.South, 0) }), api.ErrCount},
		{"too many to the south, and no owner", changed(func(l *enclave.Land) { l.South, l.Owners[0] = append(l.South, 0), 2 }), api.ErrCount},
	})
}

// P8.4: values beyond limits, and states without a plot, in the order of errors.
func TestErrorsOfLands(t *testing.T) {
	expectOfLands(t, []landCase{
		{"a third state", changed(func(l *enclave.Land) { l.Owners[1] = 2 }), api.ErrValue},
		{"less than no owner", changed(func(l *enclave.Land) { l.Owners[2] = -2 }), api.ErrValue},
		{"the least owner there is", changed(func(l *enclave.Land) { l.Owners[0] = math.MinInt }), api.ErrValue},
		{"1001 houses to the east", changed(func(l *enclave.Land) { l.East[0] = 1001 }), api.ErrValue},
		{"1001 houses to the south", changed(func(l *enclave.Land) { l.South[1] = 1001 }), api.ErrValue},
		{"fewer houses than none to the east", changed(func(l *enclave.Land) { l.East[2] = -1 }), api.ErrValue},
		{"fewer houses than none to the south", changed(func(l *enclave.Land) { l.South[0] = -1 }), api.ErrValue},
		{"the most houses there are", changed(func(l *enclave.Land) { l.East[0] = math.MaxInt }), api.ErrValue},
		{"the fewest houses there are", changed(func(l *enclave.Land) { l.South[0] = math.MinInt }), api.ErrValue},
		{"a house that looks out to the east", changed(func(l *enclave.Land) { l.East[1] = 1 }), api.ErrValue},
		{"one in the last row", changed(func(l *enclave.Land) { l.East[3] = 1 }), api.ErrValue},
		{"a house that looks out to the south", changed(func(l *enclave.Land) { l.South[2] = 1 }), api.ErrValue},
		{"one in the last column", changed(func(l *enclave.Land) { l.South[3] = 1 }), api.ErrValue},
		{"fewer houses than none look out", changed(func(l *enclave.Land) { l.South[3] = -1 }), api.ErrValue},
		{"a column with houses to the east", land("0 . 1", list(1, 0, 0), list(1, 1, 0)), api.ErrValue},
		{"a row with houses to the south", land("0.1", list(1, 1, 0), list(0, 1, 0)), api.ErrValue},
		{"a third state, and none of the second", changed(func(l *enclave.Land) { l.Owners[3] = 2 }), api.ErrValue},
		{"a house that looks out, and none of the first state", changed(func(l *enclave.Land) { l.Owners[0], l.East[3] = 1, 1 }), api.ErrValue},
		{"none of the first state", changed(func(l *enclave.Land) { l.Owners[0] = none }), api.ErrNone},
		{"none of the second state", changed(func(l *enclave.Land) { l.Owners[3] = 0 }), api.ErrNone},
		{"all is disputed", changed(func(l *enclave.Land) { l.Owners = slices.Repeat(list(none), 4) }), api.ErrNone},
		{"a single plot", land("0", list(0), list(0)), api.ErrNone},
	})
}

// P8.4: which owners are a division.
func TestErrorsOfDivisions(t *testing.T) {
	for _, x := range []struct {
		what   string
		owners []int
		e      api.Errno
	}{
		{"a division", list(0, 0, 1, 1), api.OK},
		{"too few owners", list(0, 0, 1), api.ErrArg},
		{"too many owners", list(0, 0, 1, 1, 1), api.ErrArg},
		{"no owners", nil, api.ErrArg},
		{"too many owners, none of them a state", list(5, 5, 5, 5, 5), api.ErrArg},
		{"a plot of the first state for the second", list(1, 0, 1, 1), api.ErrFalse},
		{"a plot of the second state for the first", list(0, 0, 1, 0), api.ErrFalse},
		{"a plot that is still disputed", list(0, none, 1, 1), api.ErrFalse},
		{"all as in the land", list(0, none, none, 1), api.ErrFalse},
		{"a third state", list(0, 0, 2, 1), api.ErrFalse},
		{"a third state for a plot of the first", list(2, 0, 0, 1), api.ErrFalse},
		{"the least owner there is", list(0, math.MinInt, 0, 1), api.ErrFalse},
		{"the greatest owner there is", list(0, 1, math.MaxInt, 1), api.ErrFalse},
	} {
		n, e := enclave.Cost(square(), x.owners)
		expect(t, x.what, e, x.e)
		if e != api.OK && n != 0 {
			t.Error(x.what, n)
		}
	}
}

// P8.5: which walks can be asked about, up to each limit and one beyond it, in the order of errors.
func TestErrorsOfWalks(t *testing.T) {
	good := walk(1, 0, 1, 3)
	there := func(plots int) []int { // there and back
		return append(slices.Repeat(list(0, 1), plots/2), make([]int, plots%2)...)
	}
	for _, x := range []struct {
		what  string
		walks []enclave.Walk
		e     api.Errno
	}{
		{"no walk", nil, api.OK},
		{"one walk", []enclave.Walk{good}, api.OK},
		{"2000 walks", slices.Repeat([]enclave.Walk{good}, 2000), api.ErrFalse},
		{"2001 walks", slices.Repeat([]enclave.Walk{good}, 2001), api.ErrCount},
		{"100 plots", []enclave.Walk{walk(1, there(100)...)}, api.ErrFalse},
		{"101 plots", []enclave.Walk{walk(1, there(101)...)}, api.ErrCount},
		{"101 plots of the last walk", []enclave.Walk{good, walk(1, there(101)...)}, api.ErrCount},
		{"101 plots that are none", []enclave.Walk{walk(0, slices.Repeat(list(4), 101)...)}, api.ErrCount},
		{"no plot in one walk, too many in another one", []enclave.Walk{walk(0, -1), walk(1, there(101)...)}, api.ErrCount},
		{"a plot beyond the last one", []enclave.Walk{walk(1, 0, 1, 4)}, api.ErrArg},
		{"a plot below the first one", []enclave.Walk{walk(1, -1, 1, 3)}, api.ErrArg},
		{"a plot of the last walk", []enclave.Walk{good, good, walk(1, 0, 1, 3, 4)}, api.ErrArg},
		{"the least plot there is", []enclave.Walk{walk(1, 0, math.MinInt, 3)}, api.ErrArg},
		{"the greatest plot there is", []enclave.Walk{walk(1, 0, math.MaxInt, 3)}, api.ErrArg},
		{"no family in one walk, no plot in another one", []enclave.Walk{walk(0, 0, 1, 3), walk(1, 4)}, api.ErrArg},
		{"no family", []enclave.Walk{walk(0, 0, 1, 3)}, api.ErrValue},
		{"fewer families than none", []enclave.Walk{walk(-1, 0, 1, 3)}, api.ErrValue},
		{"1001 families", []enclave.Walk{walk(1001, 0, 1, 3)}, api.ErrValue},
		{"the most families there are", []enclave.Walk{walk(math.MaxInt, 0, 1, 3)}, api.ErrValue},
		{"the fewest families there are", []enclave.Walk{walk(math.MinInt, 0, 1, 3)}, api.ErrValue},
		{"no walk in one, no family in another one", []enclave.Walk{walk(1, 0, 3), walk(0, 0, 1, 3)}, api.ErrValue},
		{"no family, and no walk", []enclave.Walk{walk(0)}, api.ErrValue},
		{"no plots", []enclave.Walk{walk(1)}, api.ErrFalse},
		{"a walk, and no plots", []enclave.Walk{good, walk(1)}, api.ErrFalse},
		{"1000 families at fewer houses", []enclave.Walk{walk(1000, 0, 1, 3)}, api.ErrFalse},
	} {
		n, e := enclave.Proves(square(), x.walks)
		expect(t, x.what, e, x.e)
		if e != api.OK && n != 0 {
			t.Error(x.what, n)
		}
	}
}

// P8.5: walks of as many families as there can be, as many walks as there can be, and as many plots.
func TestMostWalks(t *testing.T) {
	wide := settle("0.1 0.1")
	full := []enclave.Walk{walk(1000, 0, 1, 2), walk(1000, 3, 4, 5)}
	if n, e := enclave.Proves(wide, full); n != 2000 || e != api.OK {
		t.Error("1000 families at each side:", n, e)
	}
	many := slices.Concat(slices.Repeat([]enclave.Walk{walk(1, 0, 1, 2)}, 1000), slices.Repeat([]enclave.Walk{walk(1, 3, 4, 5)}, 1000))
	if n, e := enclave.Proves(wide, many); n != 2000 || e != api.OK {
		t.Error("2000 walks:", n, e)
	}
	ahead := make([]int, 100)
	for plot := range ahead {
		ahead[plot] = plot
	}
	long := settle("0" + string(slices.Repeat([]byte("."), 98)) + "1")
	if n, e := enclave.Proves(long, []enclave.Walk{walk(1000, ahead...)}); n != 1000 || e != api.OK {
		t.Error("a walk of 100 plots:", n, e)
	}
	there := append(slices.Repeat(list(0, 1), 49), 1, 2)
	there[98] = 1
	_, e := enclave.Proves(wide, []enclave.Walk{walk(1, there...)})
	expect(t, "a walk that stays on its plot", e, api.ErrFalse)
	there = append(slices.Repeat(list(0, 1), 49), 2)
	if n, e := enclave.Proves(wide, []enclave.Walk{walk(10, there...)}); n != 10 || e != api.OK {
		t.Error("99 plots, there and back:", n, e)
	}
}
