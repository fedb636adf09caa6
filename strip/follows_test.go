package strip_test

import (
	"math/rand"
	"slices"
	"testing"

	"limitrophe/api"
	"limitrophe/strip"
)

// Each point's place is what one finds who looks at many truths and all triangles of corners (P2.2, P2.5, P0.3).
func TestPlacesAreThoseOfAllTruths(t *testing.T) {
	r := rand.New(rand.NewSource(1))
	met := [4]int{}
	for range 600 {
		l := anyLine(r)
		expect(t, "Check", strip.Check(l), api.OK)
		truths := halves(l)
		if len(truths) > 20000 {
			continue
		}
		for range 6 {
			p := anyPoint(r, -1, 5)
			place := lawful(l, truths, p)
			expectPlace(t, l, p, place)
			met[place]++
		}
	}
	if slices.Min(met[:]) < 50 {
		t.Error("too few points of some place were tried:", met)
	}
}

// Around a point many places of pillars are in line with it.
func TestPlacesInTheMiddle(t *testing.T) {
	r := rand.New(rand.NewSource(10))
	met := [4]int{}
	for range 1500 {
		l := strip.Line{Closed: true}
		for range 3 + r.Intn(3) {
			l.Pillars = append(l.Pillars, strip.Box{X: anySpan(r, 0, 2, r.Intn(3)), Y: anySpan(r, 0, 2, r.Intn(2))})
		}
		truths := halves(l)
		if len(truths) > 5000 {
			continue
		}
		place := lawful(l, truths, at(1, 1))
		expectPlace(t, l, at(1, 1), place)
		met[place]++
	}
	if slices.Min(met[:]) < 20 {
		t.Error("too few lines of some place were tried:", met)
	}
}

// Flat lines have the points that are on the line in each truth.
func TestPlacesOfLinesInARow(t *testing.T) {
	r := rand.New(rand.NewSource(2))
	met := [4]int{}
	for range 1000 {
		l := strip.Line{Closed: r.Intn(2) == 0}
		if l.Closed {
			l = anyClosed(r, 3+r.Intn(2))
		} else {
			l = anyOpen(r, 2+r.Intn(3))
		}
		for number := range l.Pillars {
			l.Pillars[number].Y = api.Span{Lo: 2, Hi: 2}
			if r.Intn(8) == 0 {
				l.Pillars[number].Y.Hi++
			}
		}
		truths := halves(l)
		for x := -1; x <= 6; x++ {
			p := at(x, 2)
			place := lawful(l, truths, p)
			expectPlace(t, l, p, place)
			met[place]++
		}
	}
	if met[strip.On] < 50 || met[strip.Strip] < 50 {
		t.Error("too few points of some place were tried:", met)
	}
}

// In each truth a point is what the terms say (P2.1).
func TestRealIsWhatTermsSay(t *testing.T) {
	r := rand.New(rand.NewSource(3))
	for range 300 {
		l := anyLine(r)
		truths := halves(l)
		for range 40 {
			truth, p := truths[r.Intn(len(truths))], anyPoint(r, -2, 10)
			place, e := strip.Real(scaled(l, 2), truth, p)
			if place != truly(l.Closed, truth, p) || e != api.OK {
				t.Error(l, truth, p, place, e)
			}
		}
	}
}

// A proof is found for each point, and it is one; both kinds never are (P2.3).
func TestProofsOfAnyPoints(t *testing.T) {
	r := rand.New(rand.NewSource(4))
	for range 4000 {
		l, p := anyLine(r), anyPoint(r, -1, 6)
		if r.Intn(2) == 0 {
			l, p = greatLine(r), anyPoint(r, -strip.Max, strip.Max)
		}
		expectProofs(t, l, p)
	}
}

// expectProofs reports a point that has not the proofs of its place.
func expectProofs(t *testing.T, l strip.Line, p api.Point) {
	t.Helper()
	first := slices.IndexFunc(stretchesOf(l), func(s [8]api.Point) bool { return covers(s, p) })
	place, e := strip.Where(l, p)
	list, f := strip.Partings(l, p)
	b, g := strip.Balanced(l, p)
	expect(t, "Where", e, api.OK)
	if (first < 0) != (place == strip.Inner || place == strip.Outer) {
		t.Error(l, p, first, place)
	}
	if first < 0 {
		expect(t, "Partings", f, api.OK)
		expect(t, "Balanced", g, api.ErrNone)
		expectPartings(t, l, p, list)
		return
	}
	expect(t, "Partings", f, api.ErrNone)
	expect(t, "Balanced", g, api.OK)
	expectBalance(t, l, p, b)
	if b.Stretch != first || list != nil {
		t.Error(l, p, b, first, list)
	}
}

// The least and the greatest Y at an X are in the strip, or on the line, and what is a hair further away is not (P2.2).
func TestAtIsTheEndOfTheStrip(t *testing.T) {
	r := rand.New(rand.NewSource(5))
	for range 2000 {
		l, x := anyOpen(r, 2+r.Intn(3)), r.Intn(14)-2
		lo, hi, e := strip.At(l, x)
		expect(t, "At", e, api.OK)
		great := scaled(l, 100*lo.D)
		expectEnd(t, great, at(100*lo.D*x, 100*lo.N), -1, strip.Outer)
		great = scaled(l, 100*hi.D)
		expectEnd(t, great, at(100*hi.D*x, 100*hi.N), 1, strip.Inner)
	}
}

// expectEnd reports a point that is not the last one in the strip.
func expectEnd(t *testing.T, l strip.Line, p api.Point, further int, beyond strip.Place) {
	t.Helper()
	place, e := strip.Where(l, p)
	if place != strip.On && place != strip.Strip || e != api.OK {
		t.Error(l, p, place, e)
	}
	p.Y += further
	expectPlace(t, l, p, beyond)
}

// A field has the points that it has (P2.4).
func TestCountIsThatOfPlaces(t *testing.T) {
	r := rand.New(rand.NewSource(6))
	for range 300 {
		l := anyLine(r)
		f := strip.Field{X: anySpan(r, -2, 7, 5), Y: anySpan(r, -2, 7, 5)}
		var many [4]int
		for x := f.X.Lo; x <= f.X.Hi; x++ {
			for y := f.Y.Lo; y <= f.Y.Hi; y++ {
				place, e := strip.Where(l, at(x, y))
				expect(t, "Where", e, api.OK)
				many[place]++
			}
		}
		posts, e := strip.Count(l, f)
		if (posts != strip.Posts{Outer: many[strip.Outer], Inner: many[strip.Inner], On: many[strip.On], Strip: many[strip.Strip]}) || e != api.OK {
			t.Error(l, f, posts, many, e)
		}
	}
}

// A road meets the stretches that it begins in or whose corners it passes between, and one from an Inner point to an
// Outer one meets some stretch (P2.4, P2.5).
func TestRoads(t *testing.T) {
	r := rand.New(rand.NewSource(7))
	crossed := 0
	for range 6000 {
		l, a, b := anyLine(r), anyPoint(r, -1, 6), anyPoint(r, -1, 6)
		if r.Intn(3) == 0 {
			l, a, b = greatLine(r), anyPoint(r, -strip.Max, strip.Max), anyPoint(r, -strip.Max, strip.Max)
		}
		met, e := strip.Meets(l, a, b)
		var want []int
		for number, s := range stretchesOf(l) {
			if crosses(s, a, b) {
				want = append(want, number)
			}
		}
		if !slices.Equal(met, want) || e != api.OK {
			t.Error(l, a, b, met, want, e)
		}
		from, _ := strip.Where(l, a)
		to, _ := strip.Where(l, b)
		if from == strip.Inner && to == strip.Outer {
			crossed++
			if len(met) == 0 {
				t.Error(l, a, b)
			}
		}
	}
	if crossed < 50 {
		t.Error("too few roads lead from one side to the other:", crossed)
	}
}

// narrowed returns a line with boxes that lie in those of another line.
func narrowed(r *rand.Rand, l strip.Line) strip.Line {
	narrow := strip.Line{Closed: l.Closed}
	within := func(s api.Span) api.Span { return anySpan(r, s.Lo, s.Hi, s.Hi-s.Lo) }
	for _, b := range l.Pillars {
		narrow.Pillars = append(narrow.Pillars, strip.Box{X: within(b.X), Y: within(b.Y)})
	}
	return narrow
}

// Narrower boxes change no place but Strip, and boxes of one place leave no point in the strip (P2.5).
func TestNarrowerBoxes(t *testing.T) {
	r := rand.New(rand.NewSource(8))
	for range 5000 {
		l, p := anyLine(r), anyPoint(r, -1, 6)
		if r.Intn(2) == 0 {
			l, p = greatLine(r), anyPoint(r, -strip.Max, strip.Max)
		}
		place, _ := strip.Where(l, p)
		narrow := narrowed(r, l)
		if now, e := strip.Where(narrow, p); place != strip.Strip && now != place || e != api.OK {
			t.Error(l, narrow, p, place, now, e)
		}
		var truth []api.Point
		for number, b := range narrow.Pillars {
			truth = append(truth, at(b.X.Lo, b.Y.Hi))
			narrow.Pillars[number] = stone(b.X.Lo, b.Y.Hi)
		}
		now, e := strip.Where(narrow, p)
		is, f := strip.Real(l, truth, p)
		if now == strip.Strip || now != is || place != strip.Strip && now != place || now != truly(l.Closed, truth, p) || e != api.OK || f != api.OK {
			t.Error(l, truth, p, place, now, is, e, f)
		}
	}
}
