package sheet_test

import (
	"math/rand"
	"slices"
	"testing"

	"limitrophe/api"
	"limitrophe/sheet"
)

// P10.3: rounds, what they prove, and what is no round.
func TestRounds(t *testing.T) {
	crossed := set(5, joint(0, 1, 1, 10), joint(1, 2, 2, 20), joint(2, 0, 3, 30), joint(0, 3, 4, 40), joint(3, 4, 5, 50), joint(4, 0, 6, 60))
	for _, x := range []struct {
		what  string
		s     sheet.Set
		round sheet.Round
		want  api.Ratio
		e     api.Errno
	}{
		{"that of example 1", three(), round(1, 2, -3), whole(2), api.OK},
		{"the other way round", three(), round(3, -2, -1), whole(2), api.OK},
		{"from another sheet", three(), round(2, -3, 1), whole(2), api.OK},
		{"to the north it closes", three(), northern(1, 2, -3), whole(0), api.OK},
		{"that of example 3", ring(), round(1, 2, 3, 4), whole(1), api.OK},
		{"back", ring(), round(-4, -3, -2, -1), whole(1), api.OK},
		{"twice", ring(), round(1, 2, 3, 4, 1, 2, 3, 4), whole(1), api.OK},
		{"60 legs", ring(), round(slices.Repeat([]int{1, 2, 3, 4}, 15)...), whole(1), api.OK},
		{"there and back", three(), round(1, -1), whole(0), api.OK},
		{"back, and there", three(), round(-1, 1), whole(0), api.OK},
		{"there and back on the way", three(), round(1, -1, 1, 2, -3), ratio(6, 5), api.OK},
		{"there and back by another joint", set(2, joint(0, 1, 5, 0), joint(0, 1, 8, 0)), round(1, -2), ratio(3, 2), api.OK},
		{"in both directions", set(2, joint(0, 1, 5, 0), joint(1, 0, -8, 0)), round(1, 2), ratio(3, 2), api.OK},
		{"twice through the first sheet", crossed, round(1, 2, 3, 4, 5, 6), ratio(7, 2), api.OK},
		{"twice through a sheet", crossed, round(2, 3, 4, 5, 6, 1), ratio(7, 2), api.OK},
		{"twice through a sheet, against each other", crossed, round(2, 3, -6, -5, -4, 1), ratio(3, 2), api.OK},
		{"twice through a sheet, to the north", crossed, northern(1, 2, 3, 4, 5, 6), whole(35), api.OK},
		{"it does not come back", three(), round(1, 2), whole(0), api.ErrFalse},
		{"it comes back only on its way", three(), round(1, 2, -3, 1), whole(0), api.ErrFalse},
		{"a leg begins elsewhere", three(), round(1, 3, -2), whole(0), api.ErrFalse},
		{"a leg goes on in the other direction", three(), round(1, 2, 3), whole(0), api.ErrFalse},
		{"the first leg begins elsewhere", three(), round(-1, 2, -3), whole(0), api.ErrFalse},
		{"a joint twice", three(), round(1, 1), whole(0), api.ErrFalse},
		{"one leg", three(), round(1), whole(0), api.ErrFalse},
		{"one leg back", three(), round(-1), whole(0), api.ErrFalse},
		{"two rounds that do not meet", set(4, joint(0, 1, 1, 1), joint(1, 0, 1, 1), joint(2, 3, 1, 1), joint(3, 2, 1, 1)), round(1, 2, 3, 4), whole(0), api.ErrFalse},
	} {
		if x.e != api.OK {
			x.want = api.Ratio{}
		}
		if proved, e := sheet.Proves(x.s, x.round); proved != x.want || e != x.e {
			t.Error(x.what, proved, e)
		}
	}
}

// P10.3: any legs prove what the terms say, if they are a round.
func TestAnyRounds(t *testing.T) {
	r := rand.New(rand.NewSource(5))
	are, closed, long := [2]int{}, 0, 0
	for range 10000 {
		s := anySet(r, 12, 40, anySize(r))
		x, _ := anyRound(r, s)
		if len(x.Legs) == 0 {
			continue
		}
		if r.Intn(3) == 0 {
			x.Legs[r.Intn(len(x.Legs))].Back = r.Intn(2) == 0
		}
		if r.Intn(6) == 0 {
			x.Legs = x.Legs[r.Intn(len(x.Legs)):]
		}
		is := isRound(s, x.Legs)
		are[count(is)]++
		proved, e := sheet.Proves(s, x)
		if !is {
			if e != api.ErrFalse || proved != (api.Ratio{}) {
				t.Error("no round:", s, x, proved, e)
			}
			continue
		}
		if want := provedBy(s, x); proved != want || e != api.OK {
			t.Error(s, x, proved, want, e)
		}
		closed += count(proved.N == 0)
		long += count(len(x.Legs) > 12)
	}
	if min(are[0], are[1], closed, long) < 1000 {
		t.Error("too few rounds of some kind were tried:", are, closed, long)
	}
}

// P10.3: the worst round is the one of the greatest mean, and to the side that needs more play.
func TestWorst(t *testing.T) {
	// The ring of the sheets 1 to 4 has the sum 8, by 4 legs; between the sheets 0 and 1 it is 5, by 2.
	means := set(5, joint(1, 2, 2, 0), joint(2, 3, 2, 0), joint(3, 4, 2, 0), joint(4, 1, 2, 0), joint(0, 1, 5, 0), joint(0, 1, 0, 0))
	worst, e := sheet.Worst(means)
	if len(worst.Legs) != 2 || worst.North || e != api.OK || provedBy(means, worst) != ratio(5, 2) {
		t.Error("the greatest mean:", worst, e)
	}
	for _, x := range []struct {
		what  string
		s     sheet.Set
		north bool
		legs  int
	}{
		{"example 1", three(), false, 3},
		{"example 3", ring(), false, 4},
		{"to the north", set(2, joint(0, 1, 5, 1), joint(0, 1, 8, 9)), true, 2},
		{"to the east", set(2, joint(0, 1, 1, 5), joint(0, 1, 9, 8)), false, 2},
		{"to the north alone", set(3, joint(0, 1, 0, 10), joint(1, 2, 0, 20), joint(0, 2, 0, 36)), true, 3},
		{"of two sets the later one", set(4, joint(0, 1, 3, 0), joint(0, 1, 4, 0), joint(2, 3, 0, 0), joint(3, 2, 0, 7)), true, 2},
	} {
		worst, e := sheet.Worst(x.s)
		if worst.North != x.north || len(worst.Legs) != x.legs || e != api.OK {
			t.Error(x.what, worst, e)
		}
		agrees(t, x.s)
	}
	for _, s := range []sheet.Set{set(1), set(12), set(2, joint(0, 1, 7, -9)), set(3, joint(0, 1, 1, 2), joint(1, 2, 3, 4), joint(2, 0, -4, -6))} {
		if worst, e := sheet.Worst(s); worst.Legs != nil || worst.North || e != api.ErrNone {
			t.Error("all rounds close:", s, worst, e)
		}
	}
}

// P10.4: what lies between sheets, for the examples, plays that are just enough, or one that is less.
func TestBetween(t *testing.T) {
	two := set(3, joint(0, 1, 1, 1), joint(0, 1, 5, 1))
	for _, x := range []struct {
		what string
		s    sheet.Set
		a, b int
		play api.Ratio
		x, y sheet.Bounds
	}{
		{"example 2", three(), 0, 1, whole(2), bounds(12, 12), bounds(-2, 2)},
		{"example 2, with more play", three(), 0, 1, whole(3), bounds(10, 13), bounds(-3, 3)},
		{"the other way round", three(), 1, 0, whole(3), bounds(-13, -10), bounds(-3, 3)},
		{"the first sheet, and the last one", three(), 0, 2, whole(3), bounds(33, 36), bounds(-3, 3)},
		{"fractions", three(), 0, 1, ratio(9, 4), sheet.Bounds{Lo: ratio(23, 2), Hi: ratio(49, 4)}, sheet.Bounds{Lo: ratio(-9, 4), Hi: ratio(9, 4)}},
		{"not in lowest terms", three(), 0, 1, ratio(2000, 1000), bounds(12, 12), bounds(-2, 2)},
		{"the greatest play", three(), 0, 1, whole(1000000000), bounds(-999999990, 1000000010), bounds(-1000000000, 1000000000)},
		{"the greatest N and D", three(), 0, 1, ratio(1000000000, 1000), bounds(-999990, 1000010), bounds(-1000000, 1000000)},
		{"a sheet and itself", three(), 2, 2, whole(3), bounds(0, 0), bounds(0, 0)},
		{"a sheet and itself, which is tied with no other one", two, 2, 2, whole(2), bounds(0, 0), bounds(0, 0)},
		{"one sheet", set(1), 0, 0, whole(0), bounds(0, 0), bounds(0, 0)},
		{"just the least play", two, 0, 1, whole(2), bounds(3, 3), bounds(-1, 3)},
		{"the least one, as other numbers", two, 1, 0, ratio(4, 2), bounds(-3, -3), bounds(-3, 1)},
		{"no play", set(2, joint(0, 1, 7, -9)), 0, 1, whole(0), bounds(7, 7), bounds(-9, -9)},
		{"no play, as other numbers", set(2, joint(0, 1, 7, -9)), 0, 1, ratio(0, 1000), bounds(7, 7), bounds(-9, -9)},
		{"example 3", ring(), 0, 2, whole(1), bounds(0, 0), bounds(-2, 2)},
		{"example 3, with a play of halves", ring(), 0, 2, ratio(3, 2), bounds(-1, 1), bounds(-3, 3)},
		{"far apart", set(12, legsInARow(12, 1000000)...), 0, 11, whole(0), bounds(11000000, 11000000), bounds(-11000000, -11000000)},
		{"far apart, with the greatest play", set(12, legsInARow(12, 1000000)...), 0, 11, whole(1000000000), bounds(-10989000000, 11011000000),
			bounds(-11011000000, 10989000000)},
	} {
		east, north, e := sheet.Between(x.s, x.a, x.b, x.play)
		if east != x.x || north != x.y || e != api.OK {
			t.Error(x.what, east, north, e)
		}
	}
}

// legsInARow makes joints from each of so many sheets to the next one, which say as much to the east as back to the north.
func legsInARow(sheets, says int) []sheet.Joint {
	var joints []sheet.Joint
	for number := range sheets - 1 {
		joints = append(joints, joint(number, number+1, says, -says))
	}
	return joints
}

// P10.4: what lies between sheets is what all shifts say that need at most a play.
func TestBetweenOfAllShifts(t *testing.T) {
	r := rand.New(rand.NewSource(6))
	wide, tight := 0, 0
	for i := range 3000 {
		s, d := anySet(r, 3, 5, 2), 1+r.Intn(3)
		if i%5 == 0 {
			s, d = anySet(r, 4, 7, 1), 1+r.Intn(2)
		}
		least, _ := sheet.Play(s)
		play := ratio((least.N*d+least.D-1)/least.D+r.Intn(2), d)
		a, b := r.Intn(s.Sheets), r.Intn(s.Sheets)
		if tied, _ := sheet.Tied(s); tied[a] != tied[b] {
			continue
		}
		size := (s.Sheets - 1) * (2 + play.N/play.D + 1)
		east, north, e := sheet.Between(s, a, b, play)
		if x, y := boundsOfShifts(s, false, a, b, play, size), boundsOfShifts(s, true, a, b, play, size); east != x || north != y || e != api.OK {
			t.Error(s, a, b, play, east, north, e, x, y)
		}
		wide += count(east.Lo != east.Hi)
		tight += count(east.Lo == east.Hi && a != b && play.N > 0)
	}
	if min(wide, tight) < 100 {
		t.Error("too few bounds of some kind were tried:", wide, tight)
	}
}

// P10.4: what lies between sheets is what all walks from the one to the other say; a play that is not enough is told, and
// sheets that are not tied are.
func TestBetweenOfAllWalks(t *testing.T) {
	r := rand.New(rand.NewSource(7))
	var told [14]int
	just := 0
	for range 4000 {
		s := anySet(r, 7, 12, anySize(r))
		a, b := r.Intn(s.Sheets), r.Intn(s.Sheets)
		least, _ := sheet.Play(s)
		play := ratio(least.N, least.D)
		switch r.Intn(4) {
		case 0:
			play = ratio(max(0, least.N*10+r.Intn(3)-1), least.D*10)
		case 1:
			play = ratio(r.Intn(4+least.N), 1+r.Intn(1000))
		case 2:
			play = ratio(least.N*60, least.D*60)
		}
		play.N = min(play.N, 1000000000)
		tied := tiedByWalks(s)
		want := api.OK
		switch {
		case isLess(play, least):
			want = api.ErrClash
		case tied[a] != tied[b]:
			want = api.ErrNone
		}
		east, north, e := sheet.Between(s, a, b, play)
		told[e]++
		if e != want || e != api.OK && (east != sheet.Bounds{} || north != sheet.Bounds{}) {
			t.Error(s, a, b, play, east, north, e, want)
		}
		if want != api.OK {
			continue
		}
		just += count(lowest(exact(play)) == least && a != b)
		if x, y := boundsOfWalks(s, false, a, b, play), boundsOfWalks(s, true, a, b, play); east != x || north != y {
			t.Error(s, a, b, play, east, north, x, y)
		}
	}
	if min(told[api.OK], told[api.ErrNone], just) < 500 || told[api.ErrClash] < 300 {
		t.Error("too few of some kind were tried:", told, just)
	}
}
