package pillar_test

import (
	"math/rand"
	"slices"
	"strconv"
	"strings"
	"testing"

	"limitrophe/api"
	"limitrophe/pillar"
)

// none is the number of what there is not, as the chapter writes it.
const none = -1

// list makes a list, span a span, and just a span of one number.
func list(n ...int) []int      { return n }
func span(lo, hi int) api.Span { return api.Span{Lo: lo, Hi: hi} }
func just(n int) api.Span      { return span(n, n) }

// number reads a number, where none is written -.
func number(text string) int {
	if text == "-" {
		return none
	}
	n, e := strconv.Atoi(text)
	if e != nil {
		panic(e)
	}
	return n
}

// numbers reads a list of numbers with blanks between them.
func numbers(text string) []int {
	var l []int
	for _, field := range strings.Fields(text) {
		l = append(l, number(field))
	}
	return l
}

// spans reads a list of spans, each a number, or two with .. between them.
func spans(text string) []api.Span {
	var l []api.Span
	for _, field := range strings.Fields(text) {
		lo, hi, two := strings.Cut(field, "..")
		if !two {
			hi = lo
		}
		l = append(l, span(number(lo), number(hi)))
	}
	return l
}

// line makes a profile of places at equal distances, the first one at 0, with heights, Tall, and no Bend.
func line(apart int, heights string, tall int) pillar.Profile {
	p := pillar.Profile{Ground: spans(heights), Tall: tall}
	for place := range p.Ground {
		p.At = append(p.At, place*apart)
	}
	return p
}

// flat makes a profile of places at equal heights, 10 metres apart.
func flat(places, tall int) pillar.Profile { return line(10, strings.Repeat(" 5", places), tall) }

// hill is the profile of example 1.
func hill() pillar.Profile { return line(100, "100 150..160 120 100", 50) }

// bent returns a profile with another Bend.
func bent(p pillar.Profile, bend api.Span) pillar.Profile {
	p.Bend = bend
	return p
}

// withTall returns a profile with another Tall.
func withTall(p pillar.Profile, tall int) pillar.Profile {
	p.Tall = tall
	return p
}

// withAt returns a profile in which a place is somewhere else, and withGround one in which its height is another one.
func withAt(p pillar.Profile, place, at int) pillar.Profile {
	p.At = slices.Clone(p.At)
	p.At[place] = at
	return p
}
func withGround(p pillar.Profile, place int, height api.Span) pillar.Profile {
	p.Ground = slices.Clone(p.Ground)
	p.Ground[place] = height
	return p
}

// roll makes a roll, and finds makes finds, of texts.
func roll(gaps string) pillar.Roll { return pillar.Roll{Gaps: spans(gaps)} }
func finds(bottles, gaps string) pillar.Finds {
	return pillar.Finds{Gaps: spans(gaps), Numbers: numbers(bottles)}
}

// book is the roll of example 4.
func book() pillar.Roll { return roll("100..110 50 100") }

// expect reports an error that is not the one wanted.
func expect(t *testing.T, what string, got, want api.Errno) {
	t.Helper()
	if got != want {
		t.Errorf("%s: error %d, not %d", what, got, want)
	}
}

// anySpan returns a span within 0 and a limit.
func anySpan(r *rand.Rand, least, most, wide int) api.Span {
	lo := least + r.Intn(most-least+1)
	return span(lo, min(most, lo+r.Intn(wide+1)))
}

// anyProfile returns a profile of so many places, the ground of which is of one of several kinds.
func anyProfile(r *rand.Rand, places, wide int) pillar.Profile {
	var p pillar.Profile
	step := list(1, 7, 100, 500)[r.Intn(4)]
	height := list(2, 20, 500, 5000)[r.Intn(4)]
	at := r.Intn(step)
	for range places {
		p.At = append(p.At, at)
		p.Ground = append(p.Ground, anySpan(r, 0, height, wide))
		at += 1 + r.Intn(step)
	}
	p.Tall = min(pillar.MaxTall, list(0, 1, height/2, height, 2*height, r.Intn(height))[r.Intn(6)])
	if r.Intn(2) == 0 {
		p.Bend = anySpan(r, 0, pillar.MaxBend, 1)
	}
	return p
}

// hilly returns a profile of so many places on low hills, with low pillars: few of them see each other.
func hilly(r *rand.Rand, places int) pillar.Profile {
	p := flat(places, r.Intn(6))
	for place := range p.Ground {
		p.Ground[place] = anySpan(r, 0, 9, r.Intn(2))
	}
	return p
}

// extreme returns a profile of so many places with numbers at their limits, or near to them.
func extreme(r *rand.Rand, places int) pillar.Profile {
	p := pillar.Profile{Tall: pillar.MaxTall - r.Intn(2), Bend: span(r.Intn(2), pillar.MaxBend-r.Intn(2))}
	for place := range places {
		p.At = append(p.At, place*pillar.MaxAt/(places-1))
		p.Ground = append(p.Ground, span(list(0, pillar.MaxHeight-r.Intn(4000))[r.Intn(2)], pillar.MaxHeight))
		if r.Intn(2) == 0 {
			p.Ground[place] = just(p.Ground[place].Lo)
		}
	}
	return p
}

// anyHold returns pillars that hold, with some more than are needed.
func anyHold(r *rand.Rand, p pillar.Profile) []int {
	l := list(0)
	for place := 0; place < len(p.At)-1; {
		next := place + 1 + r.Intn(len(p.At)-1-place)
		if _, surely, _ := pillar.Sees(p, place, next); surely {
			place = next
			l = append(l, place)
		}
	}
	return l
}

// anyRoll returns a roll of so many distances.
func anyRoll(r *rand.Rand, distances int) pillar.Roll {
	var x pillar.Roll
	for range distances {
		x.Gaps = append(x.Gaps, anySpan(r, 1, 12, 3))
	}
	return x
}

// found returns a truth of finds: stones at some pillars, as many as there can be of so many, where they are, gaps that
// hold their distances, and bottles that are right.
func found(r *rand.Rand, x pillar.Roll, stones int) (f pillar.Finds, pillars, at []int) {
	places := list(0)
	for _, gap := range x.Gaps {
		places = append(places, places[len(places)-1]+gap.Lo+r.Intn(gap.Hi-gap.Lo+1))
	}
	pillars = r.Perm(len(places))[:min(stones, len(places))]
	slices.Sort(pillars)
	for _, n := range pillars {
		at = append(at, places[n])
		f.Numbers = append(f.Numbers, list(none, none, n)[r.Intn(3)])
	}
	f.Gaps = gapsOf(r, at)
	return f, pillars, at
}

// gapsOf returns spans that hold the distances between places.
func gapsOf(r *rand.Rand, at []int) []api.Span {
	var gaps []api.Span
	for i := 1; i < len(at); i++ {
		apart := at[i] - at[i-1]
		gaps = append(gaps, span(max(1, apart-r.Intn(3)), apart+r.Intn(3)))
	}
	return gaps
}

// anyFinds returns finds of which some are as they can be by a roll, and others are not.
func anyFinds(r *rand.Rand, x pillar.Roll, stones int) pillar.Finds {
	f, _, _ := found(r, x, stones)
	for range r.Intn(3) {
		stone := r.Intn(len(f.Numbers))
		if r.Intn(2) == 0 {
			f.Numbers[stone] = r.Intn(len(x.Gaps)+2) - 1
		} else if stone > 0 {
			f.Gaps[stone-1] = anySpan(r, 1, 30, 4)
		}
	}
	return f
}
