package pillar_test

import (
	"math"
	"slices"
	"strings"
	"testing"

	"limitrophe/api"
	"limitrophe/pillar"
)

// P6.1: how many places a profile has, and how many heights.
func TestCheckTellsCounts(t *testing.T) {
	for _, x := range []struct {
		what        string
		at, heights int
		e           api.Errno
	}{
		{"two places", 2, 2, api.OK},
		{"three places", 3, 3, api.OK},
		{"40 places", 40, 40, api.OK},
		{"nothing", 0, 0, api.ErrCount},
		{"one place", 1, 1, api.ErrCount},
		{"41 places", 41, 41, api.ErrCount},
		{"a height too few", 3, 2, api.ErrCount},
		{"a height too many", 3, 4, api.ErrCount},
		{"40 places, and 41 heights", 40, 41, api.ErrCount},
		{"41 places, and 40 heights", 41, 40, api.ErrCount},
		{"one place, and two heights", 1, 2, api.ErrCount},
		{"two places, and one height", 2, 1, api.ErrCount},
		{"no heights", 2, 0, api.ErrCount},
		{"no places", 0, 2, api.ErrCount},
	} {
		p := pillar.Profile{At: flat(x.at, 0).At, Ground: flat(x.heights, 0).Ground}
		expect(t, x.what, pillar.Check(p), x.e)
	}
}

// P6.1: which distances, heights, Tall and Bend are allowed: up to each limit, and none beyond.
func TestCheckTellsValues(t *testing.T) {
	p := hill()
	for _, at := range list(-1, math.MinInt, 20001, math.MaxInt) {
		for place := range p.At {
			expect(t, "a distance that is not allowed", pillar.Check(withAt(p, place, at)), api.ErrValue)
		}
	}
	expect(t, "the least distance", pillar.Check(withAt(p, 0, 0)), api.OK)
	expect(t, "the greatest distance", pillar.Check(withAt(p, 3, 20000)), api.OK)
	expect(t, "a line that begins later", pillar.Check(withAt(p, 0, 99)), api.OK)
	for _, x := range []struct {
		s    api.Span
		e, f api.Errno // as a height, and as Bend
	}{
		{just(0), api.OK, api.OK},
		{span(0, 1000), api.OK, api.OK},
		{just(1000), api.OK, api.OK},
		{span(0, 1001), api.OK, api.ErrValue},
		{just(1001), api.OK, api.ErrValue},
		{span(0, 1000000), api.OK, api.ErrValue},
		{just(1000000), api.OK, api.ErrValue},
		{span(0, 1000001), api.ErrValue, api.ErrValue},
		{just(1000001), api.ErrValue, api.ErrValue},
		{span(1000001, 0), api.ErrValue, api.ErrValue},
		{span(-1, 0), api.ErrValue, api.ErrValue},
		{span(-1, -1), api.ErrValue, api.ErrValue},
		{span(0, -1), api.ErrValue, api.ErrValue},
		{span(1, 0), api.ErrValue, api.ErrValue},
		{span(7, 6), api.ErrValue, api.ErrValue},
		{span(6, 7), api.OK, api.OK},
		{span(math.MinInt, math.MaxInt), api.ErrValue, api.ErrValue},
		{span(0, math.MaxInt), api.ErrValue, api.ErrValue},
		{span(math.MinInt, 0), api.ErrValue, api.ErrValue},
		{span(math.MaxInt, math.MinInt), api.ErrValue, api.ErrValue},
	} {
		for place := range p.At {
			expect(t, "a height", pillar.Check(withGround(p, place, x.s)), x.e)
		}
		expect(t, "a Bend", pillar.Check(bent(p, x.s)), x.f)
	}
	for tall, e := range map[int]api.Errno{
		0: api.OK, 1: api.OK, 2000: api.OK, 2001: api.ErrValue, -1: api.ErrValue, math.MinInt: api.ErrValue, math.MaxInt: api.ErrValue,
	} {
		expect(t, "a Tall", pillar.Check(withTall(p, tall)), e)
	}
}

// P6.1: distances are strictly increasing.
func TestCheckTellsOrder(t *testing.T) {
	p := hill()
	for _, x := range []struct {
		place, at int
		e         api.Errno
	}{
		{0, 99, api.OK}, {0, 100, api.ErrOrder}, {0, 101, api.ErrOrder}, {0, 20000, api.ErrOrder},
		{1, 1, api.OK}, {1, 0, api.ErrOrder}, {1, 199, api.OK}, {1, 200, api.ErrOrder}, {1, 250, api.ErrOrder},
		{2, 101, api.OK}, {2, 100, api.ErrOrder}, {2, 50, api.ErrOrder}, {2, 300, api.ErrOrder},
		{3, 201, api.OK}, {3, 200, api.ErrOrder}, {3, 0, api.ErrOrder},
	} {
		expect(t, "a place that stands elsewhere", pillar.Check(withAt(p, x.place, x.at)), x.e)
	}
}

// P6.1: errors of a profile come in their order, whichever place has one.
func TestCheckTellsTheFirstError(t *testing.T) {
	unordered := withAt(hill(), 1, 0)
	for _, x := range []struct {
		what string
		p    pillar.Profile
		e    api.Errno
	}{
		{"a height too few, and one that is not allowed", pillar.Profile{At: list(0, 0), Ground: spans("0..1000001")}, api.ErrCount},
		{"41 places, a Tall that is not allowed, and no order", pillar.Profile{At: make([]int, 41), Ground: make([]api.Span, 41), Tall: -1}, api.ErrCount},
		{"no order, and a distance that is not allowed behind", withAt(unordered, 3, 20001), api.ErrValue},
		{"no order, and a height that is not allowed", withGround(unordered, 3, span(1, 0)), api.ErrValue},
		{"no order, and a Tall that is not allowed", withTall(unordered, 2001), api.ErrValue},
		{"no order, and a Bend that is not allowed", bent(unordered, span(0, 1001)), api.ErrValue},
		{"no order", unordered, api.ErrOrder},
	} {
		expect(t, x.what, pillar.Check(x.p), x.e)
	}
}

// Each function tells the errors of a profile, or of finds, first.
func TestFirstErrors(t *testing.T) {
	wrong := list(-1, 9, 41)
	bad := arguments{heights: wrong, pillars: wrong, levels: wrong, bend: -1, i: -1, j: -1, lost: -1}
	for e, p := range map[api.Errno]pillar.Profile{
		api.ErrCount: {At: list(0, 0, 0), Ground: spans("0..1000001")},
		api.ErrValue: withTall(withAt(hill(), 1, 0), -1),
		api.ErrOrder: withAt(hill(), 1, 0),
	} {
		bad.p = p
		a := ask(bad)
		for number := range ofReadings {
			expect(t, "an error of a profile", a.errors[number], e)
		}
		if a.besidesErrors() {
			t.Error(bad, a)
		}
	}
	for e, f := range map[api.Errno]pillar.Finds{
		api.ErrCount: finds("9 -", ""),
		api.ErrValue: finds("3 4", "1"),
	} {
		a := ask(arguments{r: book(), f: f})
		if a.besidesErrors() {
			t.Error(f, a)
		}
		for number := ofReadings; number <= ofWrong; number++ {
			expect(t, "an error of finds", a.errors[number], e)
		}
	}
}

// P6.1: which heights, bends and places can be asked for, in the order of errors.
func TestErrorsOfTruths(t *testing.T) {
	p := bent(hill(), span(3, 5))
	for _, x := range []struct {
		heights    string
		bend, i, j int
		e          api.Errno
	}{
		{"100 150 120 100", 3, 0, 1, api.OK},
		{"100 160 120 100", 5, 3, 0, api.OK},
		{"100 155 120 100", 4, 2, 3, api.OK},
		{"", 3, 0, 1, api.ErrArg},
		{"100 150 120", 3, 0, 1, api.ErrArg},
		{"100 150 120 100 100", 3, 0, 1, api.ErrArg},
		{"100 150 120 100", 3, -1, 1, api.ErrArg},
		{"100 150 120 100", 3, 1, -1, api.ErrArg},
		{"100 150 120 100", 3, 4, 1, api.ErrArg},
		{"100 150 120 100", 3, 1, 4, api.ErrArg},
		{"100 150 120 100", 3, 0, 0, api.ErrArg},
		{"100 150 120 100", 3, 3, 3, api.ErrArg},
		{"100 150 120 100", 3, math.MinInt, math.MaxInt, api.ErrArg},
		{"100 150 120 100", 3, math.MaxInt, math.MinInt, api.ErrArg},
		{"99 161 121 99", 9, 0, 0, api.ErrArg},
		{"99 150 120", 3, 0, 1, api.ErrArg},
		{"99 150 120 100", 3, 0, 4, api.ErrArg},
		{"100 150 120 100", 2, 0, 1, api.ErrFalse},
		{"100 150 120 100", 6, 0, 1, api.ErrFalse},
		{"99 150 120 100", 3, 0, 1, api.ErrFalse},
		{"101 150 120 100", 3, 0, 1, api.ErrFalse},
		{"100 149 120 100", 3, 0, 1, api.ErrFalse},
		{"100 161 120 100", 3, 2, 3, api.ErrFalse},
		{"100 150 120 99", 3, 0, 1, api.ErrFalse},
		{"100 150 120 101", 3, 0, 1, api.ErrFalse},
		{"100 150 120 -", 3, 0, 1, api.ErrFalse},
	} {
		is, e := pillar.Real(p, numbers(x.heights), x.bend, x.i, x.j)
		if e != x.e || e != api.OK && is {
			t.Error(x, is, e)
		}
	}
}

// P6.1: which places can be asked for.
func TestErrorsOfPlaces(t *testing.T) {
	for _, x := range []struct {
		i, j int
		e    api.Errno
	}{
		{0, 1, api.OK}, {0, 3, api.OK}, {3, 0, api.OK}, {2, 1, api.OK},
		{0, 0, api.ErrArg}, {3, 3, api.ErrArg}, {-1, 0, api.ErrArg}, {0, -1, api.ErrArg}, {-1, -1, api.ErrArg},
		{4, 0, api.ErrArg}, {0, 4, api.ErrArg}, {4, 4, api.ErrArg}, {4, 5, api.ErrArg}, {40, 0, api.ErrArg},
		{math.MinInt, 0, api.ErrArg}, {0, math.MaxInt, api.ErrArg}, {math.MaxInt, math.MinInt, api.ErrArg},
	} {
		can, surely, e := pillar.Sees(hill(), x.i, x.j)
		if e != x.e || e != api.OK && (can || surely) {
			t.Error(x, can, surely, e)
		}
		tall, e := pillar.Tall(hill(), x.i, x.j)
		if e != x.e || e != api.OK && tall != 0 {
			t.Error(x, tall, e)
		}
	}
}

// P6.2, P6.3: at which places pillars can be asked for, and which can be lost, in the order of errors.
func TestErrorsOfPillars(t *testing.T) {
	for _, x := range []struct {
		pillars  string
		holds, e api.Errno // the error of Holds, and of Mend, for the last pillar but one
	}{
		{"0 1 2 3", api.OK, api.OK},
		{"0 1 3", api.OK, api.ErrNone},
		{"0 2 3", api.OK, api.ErrFalse},
		{"0 3", api.OK, api.ErrFalse},
		{"3 0", api.OK, api.ErrFalse},
		{"", api.OK, api.ErrFalse},
		{"0 1 -", api.ErrArg, api.ErrArg},
		{"4 1 3", api.ErrArg, api.ErrArg},
		{"0 2 4", api.ErrArg, api.ErrArg},
		{"0 1 40 3", api.ErrArg, api.ErrArg},
		{"0 1 9223372036854775807", api.ErrArg, api.ErrArg},
		{"-9223372036854775808 1 3", api.ErrArg, api.ErrArg},
	} {
		_, e := pillar.Holds(hill(), numbers(x.pillars))
		expect(t, x.pillars, e, x.holds)
		l, e := pillar.Mend(hill(), numbers(x.pillars), len(numbers(x.pillars))-2)
		if e != x.e || e != api.OK && len(l) > 0 {
			t.Error(x, l, e)
		}
	}
	for _, lost := range list(0, -1, 3, 4, 40, math.MinInt, math.MaxInt) {
		for pillars, want := range map[string]api.Errno{"0 1 2 3": api.ErrArg, "0 2 3": api.ErrFalse, "0 1 9": api.ErrArg} {
			l, e := pillar.Mend(hill(), numbers(pillars), lost)
			if e != want || len(l) > 0 {
				t.Error(pillars, lost, l, e)
			}
		}
	}
	for _, lost := range list(-1, 0, 1, 2) {
		_, e := pillar.Mend(flat(9, 1), list(0, 8), lost)
		expect(t, "two pillars, of which none is between two others", e, api.ErrArg)
	}
}

// P6.2: which levels can be asked for, in the order of errors.
func TestErrorsOfLevels(t *testing.T) {
	for _, x := range []struct {
		levels string
		e      api.Errno
	}{
		{"0 1 2 2", api.OK},
		{"40 40 40 40", api.OK},
		{"40 0 0 0", api.OK},
		{"", api.ErrArg},
		{"0 1 2", api.ErrArg},
		{"0 1 2 2 2", api.ErrArg},
		{"0 1 41", api.ErrArg},
		{"0 9 2", api.ErrArg},
		{"0 1 2 41", api.ErrValue},
		{"41 41 41 41", api.ErrValue},
		{"- 0 0 0", api.ErrValue},
		{"0 9 2 -", api.ErrValue},
		{"9223372036854775807 0 0 -9223372036854775808", api.ErrValue},
		{"0 2 2 2", api.ErrFalse},
		{"0 1 2 3", api.ErrFalse},
		{"0 40 0 40", api.ErrFalse},
	} {
		n, e := pillar.Proves(hill(), numbers(x.levels))
		if e != x.e || e != api.OK && n != 0 {
			t.Error(x, n, e)
		}
	}
}

// many returns a text so many times, with blanks.
func many(text string, times int) string { return strings.Repeat(" "+text, times) }

// P6.4: how many distances, gaps and stones there are.
func TestErrorsOfCounts(t *testing.T) {
	for _, x := range []struct {
		what                    string
		distances, gaps, stones int
		e                       api.Errno
	}{
		{"the fewest", 1, 0, 1, api.OK},
		{"two stones", 1, 1, 2, api.OK},
		{"39 distances", 39, 0, 1, api.OK},
		{"40 stones", 1, 39, 40, api.OK},
		{"the most", 39, 39, 40, api.OK},
		{"nothing", 0, 0, 0, api.ErrCount},
		{"no distances", 0, 0, 1, api.ErrCount},
		{"no stones", 1, 0, 0, api.ErrCount},
		{"no stones, and a gap", 1, 1, 0, api.ErrCount},
		{"40 distances", 40, 0, 1, api.ErrCount},
		{"41 stones", 39, 40, 41, api.ErrCount},
		{"a gap too few", 3, 1, 3, api.ErrCount},
		{"a gap too many", 3, 3, 3, api.ErrCount},
		{"one stone, and a gap", 3, 1, 1, api.ErrCount},
		{"two stones, and no gap", 3, 0, 2, api.ErrCount},
		{"40 stones, and 38 gaps", 39, 38, 40, api.ErrCount},
		{"40 stones, and 40 gaps", 39, 40, 40, api.ErrCount},
	} {
		_, e := pillar.Readings(roll(many("5", x.distances)), finds(many("-", x.stones), many("5", x.gaps)))
		expect(t, x.what, e, x.e)
		_, e = pillar.Readings(roll(many("0", x.distances)), finds(many("40", x.stones), many("20001", x.gaps)))
		if x.e == api.OK {
			x.e = api.ErrValue
		}
		expect(t, x.what+", and all is not allowed", e, x.e)
	}
}

// P6.4: which distances, gaps and numbers are allowed: up to each limit, and none beyond.
func TestErrorsOfStones(t *testing.T) {
	for _, x := range []struct {
		s api.Span
		e api.Errno
	}{
		{just(1), api.OK},
		{span(1, 20000), api.OK},
		{just(20000), api.OK},
		{span(3, 4), api.OK},
		{just(0), api.ErrValue},
		{span(0, 1), api.ErrValue},
		{span(-1, 1), api.ErrValue},
		{just(20001), api.ErrValue},
		{span(1, 20001), api.ErrValue},
		{span(4, 3), api.ErrValue},
		{span(20000, 1), api.ErrValue},
		{span(1, 0), api.ErrValue},
		{span(20001, 20000), api.ErrValue},
		{span(1, math.MaxInt), api.ErrValue},
		{span(math.MinInt, 1), api.ErrValue},
	} {
		for i := range 3 {
			r, f := book(), finds("- - - -", "5 5 5")
			r.Gaps[i] = x.s
			_, e := pillar.Readings(r, f)
			expect(t, "a distance", e, x.e)
			r, f.Gaps[i] = book(), x.s
			_, e = pillar.Readings(r, f)
			expect(t, "a gap", e, x.e)
		}
	}
	for n, e := range map[int]api.Errno{
		none: api.OK, 0: api.OK, 1: api.OK, 3: api.OK,
		4: api.ErrValue, 5: api.ErrValue, 39: api.ErrValue, -2: api.ErrValue, math.MaxInt: api.ErrValue, math.MinInt: api.ErrValue,
	} {
		for stone := range 3 {
			f := finds("- - -", "5 5")
			f.Numbers[stone] = n
			_, got := pillar.Readings(book(), f)
			expect(t, "a number", got, e)
		}
	}
	_, e := pillar.Readings(roll(many("5", 39)), finds("39 0", "7"))
	expect(t, "the last of 40 pillars", e, api.OK)
	_, e = pillar.Readings(roll(many("5", 39)), finds("0 40", "7"))
	expect(t, "one behind the last of 40 pillars", e, api.ErrValue)
}

// P6.4: Numbers are those of a reading, and Wrong asks for finds without one.
func TestErrorsOfReadings(t *testing.T) {
	for _, x := range []struct {
		what string
		f    pillar.Finds
		want [3]api.Errno
	}{
		{"a reading", finds("- 3", "150..155"), [3]api.Errno{api.OK, api.OK, api.ErrState}},
		{"several", finds("- -", "150..155"), [3]api.Errno{api.OK, api.OK, api.ErrState}},
		{"none", finds("- -", "500"), [3]api.Errno{api.OK, api.ErrClash, api.OK}},
		{"none, and all stones needed to be wrong", finds("- - - -", "500 500 500"), [3]api.Errno{api.OK, api.ErrClash, api.OK}},
		{"a number that is not allowed", finds("- 4", "500"), [3]api.Errno{api.ErrValue, api.ErrValue, api.ErrValue}},
	} {
		a := ask(arguments{r: book(), f: x.f})
		if !slices.Equal(a.errors[ofReadings:], x.want[:]) || a.besidesErrors() {
			t.Error(x.what, a)
		}
	}
}
