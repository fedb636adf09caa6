package sheet_test

import (
	"math/rand"
	"slices"
	"testing"

	"limitrophe/api"
	"limitrophe/sheet"
)

// playCase is a set, its least play, and for each sheet the least one that is tied with it.
type playCase struct {
	what string
	s    sheet.Set
	play api.Ratio
	tied []int
}

// P10.1, P10.2: the examples, and sets that are easy to see through.
func TestPlaysOfSets(t *testing.T) {
	for _, x := range []playCase{
		{"example 1", three(), whole(2), []int{0, 0, 0}},
		{"example 3", ring(), whole(1), []int{0, 0, 0, 0}},
		{"one sheet", set(1), whole(0), []int{0}},
		{"two sheets without joints", set(2), whole(0), []int{0, 1}},
		{"12 sheets without joints", set(12), whole(0), []int{0, 1, 2, 3, 4, 5, 6, 7, 8, 9, 10, 11}},
		{"one joint", set(2, joint(0, 1, 7, -9)), whole(0), []int{0, 0}},
		{"one joint from the last sheet", set(3, joint(2, 1, 7, -9)), whole(0), []int{0, 1, 1}},
		{"tied by later joints", set(4, joint(3, 2, 0, 0), joint(1, 2, 0, 0), joint(1, 0, 0, 0)), whole(0), []int{0, 0, 0, 0}},
		{"tied in pairs", set(4, joint(3, 1, 0, 0), joint(0, 2, 0, 0)), whole(0), []int{0, 1, 0, 1}},
		{"two joints that agree", set(2, joint(0, 1, 7, -9), joint(1, 0, -7, 9)), whole(0), []int{0, 0}},
		{"a fraction", set(2, joint(0, 1, 5, 0), joint(0, 1, 8, 0)), ratio(3, 2), []int{0, 0}},
		{"a fraction, one of the joints back", set(2, joint(0, 1, 5, 0), joint(1, 0, -8, 0)), ratio(3, 2), []int{0, 0}},
		{"a fraction to the north", set(2, joint(0, 1, 0, 5), joint(1, 0, 0, -8)), ratio(3, 2), []int{0, 0}},
		{"thirds", set(3, joint(0, 1, 1, 0), joint(1, 2, 1, 0), joint(2, 0, 2, 0)), ratio(4, 3), []int{0, 0, 0}},
		{"more play to the north", set(2, joint(0, 1, 5, 1), joint(0, 1, 8, 9)), whole(4), []int{0, 0}},
		{"more play to the east", set(2, joint(0, 1, 1, 5), joint(0, 1, 9, 8)), whole(4), []int{0, 0}},
		{"as much play both ways", set(2, joint(0, 1, 1, 9), joint(0, 1, 9, 1)), whole(4), []int{0, 0}},
		{"three joints between two sheets", set(2, joint(0, 1, 1, 0), joint(1, 0, -4, 0), joint(0, 1, 8, 0)), ratio(7, 2), []int{0, 0}},
		{"two sets in one", set(4, joint(0, 1, 3, 0), joint(0, 1, 4, 0), joint(2, 3, 0, 0), joint(3, 2, 0, 7)), ratio(7, 2), []int{0, 0, 2, 2}},
		{"a lesser sum is the greater mean", set(5, joint(0, 1, 5, 0), joint(0, 1, 0, 0), joint(1, 2, 2, 0), joint(2, 3, 2, 0), joint(3, 4, 2, 0),
			joint(4, 1, 2, 0)), ratio(5, 2), []int{0, 0, 0, 0, 0}},
		{"the greatest sum both times", set(2, joint(0, 1, 1000000, 0), joint(1, 0, 1000000, 0)), whole(1000000), []int{0, 0}},
		{"the least sums", set(2, joint(0, 1, 0, -1000000), joint(1, 0, 0, -1000000)), whole(1000000), []int{0, 0}},
	} {
		if play, e := sheet.Play(x.s); play != x.play || e != api.OK {
			t.Error(x.what, "play:", play, e)
		}
		if tied, e := sheet.Tied(x.s); !slices.Equal(tied, x.tied) || e != api.OK {
			t.Error(x.what, "tied:", tied, e)
		}
		agrees(t, x.s)
	}
}

// agrees reports a set whose shifts need another play than the least one, or than a round proves; it returns that play.
func agrees(t *testing.T, s sheet.Set) api.Ratio {
	t.Helper()
	play, e := sheet.Play(s)
	if e != api.OK {
		t.Error("no play:", s, e)
	}
	shifts, e := sheet.Shifts(s)
	if e != api.OK || len(shifts) != s.Sheets || neededBy(s, shifts) != play {
		t.Error("shifts that do not need just the least play:", s, play, shifts, e)
	}
	if needs, e := sheet.Needs(s, shifts); needs != play || e != api.OK {
		t.Error("shifts need another play:", s, play, shifts, needs, e)
	}
	for number, first := range tiedByWalks(s) {
		if first == number && shifts[number] != (sheet.Shift{X: whole(0), Y: whole(0)}) {
			t.Error("a sheet that is tied with none before it is shifted:", s, number, shifts)
		}
	}
	for _, x := range shifts {
		if x.X != lowest(exact(x.X)) || x.Y != lowest(exact(x.Y)) {
			t.Error("a shift is not in lowest terms:", s, shifts)
		}
	}
	worst, e := sheet.Worst(s)
	if play.N == 0 {
		if e != api.ErrNone || worst.North || worst.Legs != nil {
			t.Error("a round that proves nothing:", s, worst, e)
		}
		return play
	}
	if e != api.OK || len(worst.Legs) < 1 || len(worst.Legs) > 60 || !isRound(s, worst.Legs) || provedBy(s, worst) != play {
		t.Error("not a round that proves the least play:", s, play, worst, e)
	}
	if proved, e := sheet.Proves(s, worst); proved != play || e != api.OK {
		t.Error("the round proves another play:", s, play, worst, proved, e)
	}
	return play
}

// P10.2: the least play is the most that a round of all proves, and shifts need it.
func TestPlayOfAllRounds(t *testing.T) {
	r := rand.New(rand.NewSource(1))
	many, parts, none := 0, 0, 0
	for range 2500 {
		s := anySet(r, 7, 13, anySize(r))
		most, tried := playOfRounds(s)
		if play := agrees(t, s); play != most {
			t.Error("another round proves more, or less:", s, play, most)
		}
		many += count(tried > 40)
		parts += count(most.D > 2)
		none += count(most.N == 0)
	}
	if min(many, parts, none) < 200 {
		t.Error("too few sets of some kind were tried:", many, parts, none)
	}
}

// anyFlower returns a ring of sheets, each of which has two joints to a sheet beside it: many rounds go through each sheet, the
// short ones prove something else than the long ones.
func anyFlower(r *rand.Rand, size int) sheet.Set {
	many := 2 + r.Intn(4)
	s := set(2 * many)
	for number := range many {
		s.Joints = append(s.Joints, joint(number, (number+1)%many, size+r.Intn(5), r.Intn(size+1)),
			joint(number, many+number, 0, 0), joint(many+number, number, r.Intn(2*size)-size, r.Intn(2*size)-size))
	}
	r.Shuffle(len(s.Joints), func(i, k int) { s.Joints[i], s.Joints[k] = s.Joints[k], s.Joints[i] })
	return s
}

// P10.2: the worst round is found among many others, whichever of them is met first.
func TestPlayOfFlowers(t *testing.T) {
	flower := set(6, joint(0, 1, 10, 0), joint(1, 2, 10, 0), joint(2, 0, 10, 0), joint(0, 3, 0, 0), joint(0, 3, 2, 0),
		joint(1, 4, 0, 0), joint(1, 4, 4, 0), joint(2, 5, 0, 0), joint(2, 5, 6, 0))
	if play := agrees(t, flower); play != whole(10) {
		t.Error("rounds of two legs prove less:", play)
	}
	r := rand.New(rand.NewSource(5))
	var proved [6]int // by rounds of so many legs
	for range 1000 {
		s := anyFlower(r, 2+r.Intn(20))
		most, _ := playOfRounds(s)
		if play := agrees(t, s); play != most {
			t.Error("another round proves more, or less:", s, play, most)
		}
		worst, _ := sheet.Worst(s)
		proved[min(len(worst.Legs), 5)]++
	}
	if slices.Min(proved[2:]) < 80 {
		t.Error("too few rounds of some kind were the worst one:", proved)
	}
}

// P10.2: no shifts need less than the least play, of all that are tried.
func TestPlayOfAllShifts(t *testing.T) {
	r := rand.New(rand.NewSource(2))
	parts := 0
	for i := range 300 {
		s, size, d := anySet(r, 3, 5, 2), 8, 6
		if i%6 == 0 {
			s, size, d = anySet(r, 4, 6, 1), 6, 12
		}
		east, north := playOfShifts(s, false, size, d), playOfShifts(s, true, size, d)
		if play, e := sheet.Play(s); isLess(play, east) || isLess(play, north) || play != east && play != north || e != api.OK {
			t.Error("the least play is another one:", s, play, east, north, e)
		}
		parts += count(east.D > 1) + count(north.D > 1)
	}
	if parts < 100 {
		t.Error("too few fractions were tried:", parts)
	}
}

// P10.1, P10.2: which sheets are tied, and shifts that need the least play, for sets of all sizes.
func TestSetsOfAllSizes(t *testing.T) {
	r := rand.New(rand.NewSource(3))
	apart, full, deep := 0, 0, 0
	for range 300 {
		s := anySet(r, 12, 40, anySize(r))
		play := agrees(t, s)
		tied, e := sheet.Tied(s)
		if want := tiedByWalks(s); !slices.Equal(tied, want) || e != api.OK {
			t.Error("other sheets are tied:", s, tied, want, e)
		}
		apart += count(slices.Max(tied) > 0 && slices.Max(tied) < s.Sheets-1)
		full += count(s.Sheets == 12 && len(s.Joints) > 30)
		deep += count(play.D > 3)
	}
	if min(apart, full, deep) < 15 {
		t.Error("too few sets of some kind were tried:", apart, full, deep)
	}
}

// Sets at the limits: rings of all 12 sheets, with all 40 joints, which say as much as they can.
func TestSetsAtTheLimits(t *testing.T) {
	around := func(says int) sheet.Set {
		s := set(12)
		for number := range 12 {
			s.Joints = append(s.Joints, joint(number, (number+1)%12, says, -says))
		}
		return s
	}
	for _, x := range []struct {
		s    sheet.Set
		want api.Ratio
	}{
		{around(1000000), whole(1000000)},
		{around(-1000000), whole(1000000)},
		{with(around(0), joint(5, 6, 1000000, 0)), whole(500000)},
		{with(around(0)), whole(0)},
		{with(set(12, around(1000000).Joints[:11]...), joint(11, 0, 999999, 5)), ratio(11999999, 12)},
		{with(set(12, around(1000000).Joints[:11]...), joint(0, 11, 1000000, 5)), ratio(11000005, 12)},
		{set(12, slices.Concat(around(7).Joints, around(7).Joints, around(7).Joints, around(7).Joints[:4])...), whole(7)},
		{set(2, slices.Concat(slices.Repeat([]sheet.Joint{joint(0, 1, 1000000, -1000000)}, 39), []sheet.Joint{joint(0, 1, -1000000, 999999)})...), whole(1000000)},
	} {
		if play := agrees(t, x.s); play != x.want {
			t.Error(x.s, play, x.want)
		}
	}
}

// P10.2: the play that shifts need, for the shifts of example 1, shifts that are no whole numbers, not in lowest terms, or as
// great as they can be.
func TestNeeds(t *testing.T) {
	north := eastward(whole(0), whole(12), whole(34))
	north[1].Y = ratio(-7, 2)
	all := func(n, d int) []sheet.Shift { return slices.Repeat([]sheet.Shift{{X: ratio(n, d), Y: ratio(n, d)}}, 3) }
	for _, x := range []struct {
		what   string
		s      sheet.Set
		shifts []sheet.Shift
		want   api.Ratio
	}{
		{"those of the example", three(), wholes(0, 12, 34), whole(2)},
		{"those that two joints tell", three(), wholes(0, 10, 30), whole(6)},
		{"none", three(), wholes(0, 0, 0), whole(36)},
		{"below 0", three(), wholes(-34, -22, 0), whole(2)},
		{"halves", three(), eastward(whole(0), ratio(25, 2), ratio(69, 2)), ratio(5, 2)},
		{"not in lowest terms", three(), eastward(ratio(0, 7), ratio(24, 2), ratio(3400, 100)), whole(2)},
		{"thirds that all have", three(), eastward(ratio(1, 3), ratio(37, 3), ratio(103, 3)), whole(2)},
		{"to the north, too", three(), north, ratio(7, 2)},
		{"the same for all", three(), all(1000000000, 1), whole(36)},
		{"the least D, and the greatest one", three(), all(1000000000, 1000), whole(36)},
		{"the least N", three(), all(-1000000000, 7), whole(36)},
		{"as far apart as can be", three(), wholes(0, -1000000000, 1000000000), whole(1999999980)},
		{"with the greatest D", set(2, joint(0, 1, 0, 0)), eastward(ratio(-1000000000, 999), ratio(1000000000, 1000)), ratio(1999000000, 999)},
		{"with the greatest D, not in lowest terms", set(2, joint(0, 1, -1000000, 0)), eastward(ratio(1000, 1000), ratio(999999999, 1000)), ratio(1999998999, 1000)},
		{"no joints", set(3), wholes(5, 7, 9), whole(0)},
		{"a sheet that is not tied", set(3, joint(0, 1, 4, 0)), wholes(5, 7, 9000), whole(2)},
		{"back", set(2, joint(1, 0, 4, 0)), wholes(5, 7), whole(6)},
		{"one sheet", set(1), wholes(8), whole(0)},
	} {
		if needs, e := sheet.Needs(x.s, x.shifts); needs != x.want || e != api.OK {
			t.Error(x.what, needs, x.want, e)
		}
	}
}

// P10.2: the play that any shifts need is that of the joint that differs most.
func TestNeedsOfAnyShifts(t *testing.T) {
	r := rand.New(rand.NewSource(4))
	for range 4000 {
		s := anySet(r, 12, 40, anySize(r))
		shifts := anyShifts(r, s.Sheets, []int{1, 30, 1000000, 1000000000}[r.Intn(4)])
		if needs, e := sheet.Needs(s, shifts); needs != neededBy(s, shifts) || e != api.OK {
			t.Error(s, shifts, needs, neededBy(s, shifts), e)
		}
	}
}
