package sheet_test

import (
	"math/rand"
	"testing"

	"limitrophe/api"
	"limitrophe/sheet"
)

// anyJoint returns a joint between two of so many sheets, at least two, which says up to so much.
func anyJoint(r *rand.Rand, sheets, size int) sheet.Joint {
	a, b := anyTwo(r, sheets)
	return joint(a, b, anyWithin(r, size), anyWithin(r, size))
}

// P10.6, P0.11: joined sheets agree with the least play, which a round proves, and no more marks are matched than levels allow.
func TestSheetsAgree(t *testing.T) {
	r := rand.New(rand.NewSource(21))
	var needed, matched int
	for range 600 {
		s := anySet(r, 12, 40, anySize(r))
		needed += count(agrees(t, s).N > 0)
		a, b, play := anyEdges(r, 30)
		matched += count(proven(t, a, b, play) > 0)
	}
	if min(needed, matched) < 250 {
		t.Error("too few sets or edges were tried:", needed, matched)
	}
}

// P10.6: no round proves more than shifts need, nor more than the least play; and no shifts need less than that.
func TestNoRoundProvesMore(t *testing.T) {
	r := rand.New(rand.NewSource(22))
	rounds, closes := 0, 0
	for range 1000 {
		s := anySet(r, 12, 40, anySize(r))
		least, _ := sheet.Play(s)
		shifts := anyShifts(r, s.Sheets, 30)
		if good, _ := sheet.Shifts(s); r.Intn(2) == 0 {
			for number := range good {
				shifts[number].X = plus(good[number].X, whole(r.Intn(5)))
				shifts[number].Y = good[number].Y
			}
		}
		needs, e := sheet.Needs(s, shifts)
		if e != api.OK || isLess(needs, least) {
			t.Error("shifts need less than the least play:", s, shifts, needs, least, e)
		}
		for range 5 {
			x, is := anyRound(r, s)
			if !is {
				continue
			}
			proved, e := sheet.Proves(s, x)
			if e != api.OK || isLess(least, proved) || isLess(needs, proved) {
				t.Error("a round proves more:", s, x, proved, least, needs, e)
			}
			rounds++
			closes += count(proved.N == 0)
		}
	}
	if rounds < 2500 || closes < 600 {
		t.Error("too few rounds were tried:", rounds, closes)
	}
}

// P10.6: a round that closes proves 0: one that goes there and back does, and so does any one where all joints agree.
func TestRoundsThatClose(t *testing.T) {
	r := rand.New(rand.NewSource(23))
	back, agreed := 0, 0
	for range 3000 {
		s := anySet(r, 12, 40, anySize(r))
		x, is := anyRound(r, s)
		if !is {
			continue
		}
		if least, _ := sheet.Play(s); least.N == 0 {
			if proved, e := sheet.Proves(s, x); proved != whole(0) || e != api.OK {
				t.Error("all joints agree:", s, x, proved, e)
			}
			agreed++
		}
		if len(x.Legs) > 30 {
			continue
		}
		for i := len(x.Legs) - 1; i >= 0; i-- {
			x.Legs = append(x.Legs, sheet.Leg{Joint: x.Legs[i].Joint, Back: !x.Legs[i].Back})
		}
		if proved, e := sheet.Proves(s, x); proved != whole(0) || e != api.OK {
			t.Error("there and back:", s, x, proved, e)
		}
		back++
	}
	if min(back, agreed) < 500 {
		t.Error("too few rounds were tried:", back, agreed)
	}
}

// P10.6: a joint more never makes the least play less, nor what lies between two sheets wider.
func TestAJointMore(t *testing.T) {
	r := rand.New(rand.NewSource(24))
	more, narrower, tying := 0, 0, 0
	for range 2500 {
		size := anySize(r)
		s := anySet(r, 8, 30, size)
		if s.Sheets == 1 {
			continue
		}
		one := with(s, anyJoint(r, s.Sheets, size))
		least, _ := sheet.Play(s)
		then, e := sheet.Play(one)
		if e != api.OK || isLess(then, least) {
			t.Error("a joint more makes the least play less:", s, one, least, then, e)
		}
		more += count(isLess(least, then))
		play := then
		if r.Intn(2) == 0 {
			play = plus(then, ratio(r.Intn(10), 1+r.Intn(3)))
		}
		a, b := r.Intn(s.Sheets), r.Intn(s.Sheets)
		x, y, e := sheet.Between(s, a, b, play)
		u, v, f := sheet.Between(one, a, b, play)
		if e == api.ErrNone {
			tying += count(f == api.OK)
			continue
		}
		if e != api.OK || f != api.OK || isLess(u.Lo, x.Lo) || isLess(x.Hi, u.Hi) || isLess(v.Lo, y.Lo) || isLess(y.Hi, v.Hi) {
			t.Error("a joint more makes what lies between wider:", one, a, b, play, x, u, y, v, e, f)
		}
		narrower += count(u != x)
	}
	if min(more, narrower) < 300 || tying < 30 {
		t.Error("too few joints were tried:", more, narrower, tying)
	}
}

// P10.4, P10.6: more play makes what lies between two sheets no narrower, and shifts that need a play lie between.
func TestShiftsLieBetween(t *testing.T) {
	r := rand.New(rand.NewSource(25))
	tried := 0
	for range 400 {
		s := anySet(r, 12, 40, anySize(r))
		least, _ := sheet.Play(s)
		shifts, _ := sheet.Shifts(s)
		a, b := r.Intn(s.Sheets), r.Intn(s.Sheets)
		minus := func(r api.Ratio) api.Ratio { return ratio(-r.N, r.D) }
		for _, play := range []api.Ratio{least, plus(least, ratio(1, 3)), plus(least, whole(1))} {
			x, y, e := sheet.Between(s, a, b, play)
			if e == api.ErrNone {
				continue
			}
			east, north := plus(shifts[b].X, minus(shifts[a].X)), plus(shifts[b].Y, minus(shifts[a].Y))
			if e != api.OK || isLess(east, x.Lo) || isLess(x.Hi, east) || isLess(north, y.Lo) || isLess(y.Hi, north) {
				t.Error("shifts do not lie between:", s, a, b, play, shifts, x, y, e)
			}
			back, up, e := sheet.Between(s, b, a, play)
			if e != api.OK || back != (sheet.Bounds{Lo: minus(x.Hi), Hi: minus(x.Lo)}) || up != (sheet.Bounds{Lo: minus(y.Hi), Hi: minus(y.Lo)}) {
				t.Error("the other way round it is something else:", s, a, b, play, x, y, back, up, e)
			}
			tried++
		}
	}
	if tried < 600 {
		t.Error("too few shifts were tried:", tried)
	}
}

// P10.6: more play never matches fewer marks.
func TestMorePlay(t *testing.T) {
	r := rand.New(rand.NewSource(26))
	more := 0
	for range 4000 {
		a, b, play := anyEdges(r, 30)
		match, _ := sheet.Match(a, b, play)
		wider := min(1000000, play+r.Intn(1+play/2)+r.Intn(30))
		then, e := sheet.Match(a, b, wider)
		if e != api.OK || len(then) < len(match) {
			t.Error("more play matches fewer marks:", a, b, play, wider, match, then, e)
		}
		if is, e := sheet.Matches(a, b, wider, match); !is || e != api.OK {
			t.Error("with more play a match is none:", a, b, play, wider, match, e)
		}
		more += count(len(then) > len(match))
	}
	if more < 500 {
		t.Error("too seldom more marks were matched:", more)
	}
}

// P10.6: no match has more pairs than any levels say.
func TestNoMatchHasMorePairs(t *testing.T) {
	r := rand.New(rand.NewSource(27))
	tried := 0
	for range 20000 {
		a, b, play := anyEdges(r, 10)
		list := anyPairs(r, a, b, play)
		bars, e := sheet.Bars(a, b, play, anyLevels(r, a, b, play))
		if is, _ := sheet.Matches(a, b, play, list); !is || e != api.OK {
			continue
		}
		if len(list) > bars {
			t.Error("a match has more pairs:", a, b, play, list, bars)
		}
		tried += count(len(list) > 1)
	}
	if tried < 1000 {
		t.Error("too few matches were tried:", tried)
	}
}
