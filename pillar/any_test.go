package pillar_test

import (
	"math"
	"math/rand"
	"reflect"
	"slices"
	"testing"

	"limitrophe/api"
	"limitrophe/pillar"
)

// arguments are those of all functions.
type arguments struct {
	p                        pillar.Profile
	heights, pillars, levels []int
	bend, i, j, lost         int
	r                        pillar.Roll
	f                        pillar.Finds
}

// answers has what all functions answer.
type answers struct {
	real, can, surely, holds bool
	tall, proved, readings   int
	lists                    [4][]int // of Fewest, Levels, Mend and Wrong
	numbers                  [][]int
	errors                   [12]api.Errno // of all functions
}

// The functions, in the order in which the chapter declares them.
const (
	ofCheck = iota
	ofReal
	ofSees
	ofTall
	ofFewest
	ofHolds
	ofLevels
	ofProves
	ofMend
	ofReadings
	ofNumbers
	ofWrong
)

// ask calls all functions.
func ask(x arguments) answers {
	var a answers
	a.errors[ofCheck] = pillar.Check(x.p)
	a.real, a.errors[ofReal] = pillar.Real(x.p, x.heights, x.bend, x.i, x.j)
	a.can, a.surely, a.errors[ofSees] = pillar.Sees(x.p, x.i, x.j)
	a.tall, a.errors[ofTall] = pillar.Tall(x.p, x.i, x.j)
	a.lists[0], a.errors[ofFewest] = pillar.Fewest(x.p)
	a.holds, a.errors[ofHolds] = pillar.Holds(x.p, x.pillars)
	a.lists[1], a.errors[ofLevels] = pillar.Levels(x.p)
	a.proved, a.errors[ofProves] = pillar.Proves(x.p, x.levels)
	a.lists[2], a.errors[ofMend] = pillar.Mend(x.p, x.pillars, x.lost)
	a.readings, a.errors[ofReadings] = pillar.Readings(x.r, x.f)
	a.numbers, a.errors[ofNumbers] = pillar.Numbers(x.r, x.f)
	a.lists[3], a.errors[ofWrong] = pillar.Wrong(x.r, x.f)
	return a
}

// besidesErrors reports whether some function answers something together with an error.
func (a answers) besidesErrors() bool {
	something := [12]bool{
		ofReal:     a.real,
		ofSees:     a.can || a.surely,
		ofTall:     a.tall != 0,
		ofFewest:   len(a.lists[0]) > 0,
		ofHolds:    a.holds,
		ofLevels:   len(a.lists[1]) > 0,
		ofProves:   a.proved != 0,
		ofMend:     len(a.lists[2]) > 0,
		ofReadings: a.readings != 0,
		ofNumbers:  len(a.numbers) > 0,
		ofWrong:    len(a.lists[3]) > 0,
	}
	for number, e := range a.errors {
		if e != api.OK && something[number] {
			return true
		}
	}
	return false
}

// copied returns arguments that share no memory with other ones.
func (x arguments) copied() arguments {
	x.p.At, x.p.Ground = slices.Clone(x.p.At), slices.Clone(x.p.Ground)
	x.heights, x.pillars, x.levels = slices.Clone(x.heights), slices.Clone(x.pillars), slices.Clone(x.levels)
	x.r.Gaps, x.f.Gaps, x.f.Numbers = slices.Clone(x.r.Gaps), slices.Clone(x.f.Gaps), slices.Clone(x.f.Numbers)
	return x
}

// wild returns a number that is often not allowed.
func wild(r *rand.Rand) int {
	numbers := list(0, 0, 1, 1, 2, 2, 3, 4, 5, -1, -2, 39, 40, 41, 1000, 1001, 2000, 2001, 20000, 20001, 1000000, 1000001,
		math.MaxInt, math.MinInt, math.MaxInt-1, 1<<62, 1<<32)
	return numbers[r.Intn(len(numbers))]
}

// wildList returns a list of such numbers, and wildSpans one of spans.
func wildList(r *rand.Rand, most int) []int {
	var l []int
	for range r.Intn(most + 1) {
		l = append(l, wild(r))
	}
	return l
}
func wildSpans(r *rand.Rand, most int) []api.Span {
	var l []api.Span
	for range r.Intn(most + 1) {
		l = append(l, span(wild(r), wild(r)))
	}
	return l
}

// wildArguments returns arguments that are often not allowed.
func wildArguments(r *rand.Rand) arguments {
	places := 2 + r.Intn(4)
	x := arguments{p: anyProfile(r, places, 2), bend: wild(r), i: wild(r), j: wild(r), lost: wild(r)}
	x.pillars, x.levels, x.heights = anyHold(r, x.p), wildList(r, 4), wildList(r, 4)
	x.r = anyRoll(r, 1+r.Intn(5))
	x.f = anyFinds(r, x.r, 1+r.Intn(4))
	place := r.Intn(places)
	switch r.Intn(12) {
	case 0:
		x.p = pillar.Profile{At: wildList(r, 4), Ground: wildSpans(r, 4), Tall: wild(r), Bend: span(wild(r), wild(r))}
	case 1:
		x.p = withAt(x.p, place, wild(r))
	case 2:
		x.p = withGround(x.p, place, span(wild(r), wild(r)))
	case 3:
		x.p = withTall(bent(x.p, span(wild(r), wild(r))), wild(r))
	case 4:
		x.r = pillar.Roll{Gaps: wildSpans(r, 6)}
	case 5:
		x.f = pillar.Finds{Gaps: wildSpans(r, 4), Numbers: wildList(r, 4)}
	case 6:
		x.f.Numbers[r.Intn(len(x.f.Numbers))] = wild(r)
	case 7:
		x.pillars = wildList(r, 5)
	}
	if r.Intn(2) == 0 {
		x.levels, _ = pillar.Levels(x.p)
		x.bend, x.heights = x.p.Bend.Lo, nil
		for _, s := range x.p.Ground {
			x.heights = append(x.heights, s.Lo)
		}
	}
	return x
}

// Every function ends for all arguments, and changes none of them; and nothing comes with an error (P0.1).
func TestAnyArguments(t *testing.T) {
	r := rand.New(rand.NewSource(1))
	ask(arguments{})
	var told [12][14]int // how often a function had an error
	for range 30000 {
		x := wildArguments(r)
		before := x.copied()
		a := ask(x)
		for number, e := range a.errors {
			told[number][e]++
			if a.errors[ofCheck] != api.OK && number < ofReadings && e != a.errors[ofCheck] {
				t.Error("another error than that of a profile:", number, x, a)
			}
			if a.errors[ofReadings] != api.OK && number > ofReadings && e != a.errors[ofReadings] {
				t.Error("another error than that of finds:", number, x, a)
			}
		}
		if a.besidesErrors() {
			t.Error("something comes with an error:", x, a)
		}
		if !reflect.DeepEqual(x, before) {
			t.Error("arguments were changed:", x, before)
		}
	}
	for number, errors := range [12][]api.Errno{
		ofCheck:    {api.OK, api.ErrCount, api.ErrValue, api.ErrOrder},
		ofReal:     {api.OK, api.ErrCount, api.ErrValue, api.ErrOrder, api.ErrArg, api.ErrFalse},
		ofSees:     {api.OK, api.ErrCount, api.ErrValue, api.ErrOrder, api.ErrArg},
		ofTall:     {api.OK, api.ErrCount, api.ErrValue, api.ErrOrder, api.ErrArg, api.ErrLarge},
		ofFewest:   {api.OK, api.ErrCount, api.ErrValue, api.ErrOrder},
		ofHolds:    {api.OK, api.ErrCount, api.ErrValue, api.ErrOrder, api.ErrArg},
		ofLevels:   {api.OK, api.ErrCount, api.ErrValue, api.ErrOrder},
		ofProves:   {api.OK, api.ErrCount, api.ErrValue, api.ErrOrder, api.ErrArg, api.ErrFalse},
		ofMend:     {api.OK, api.ErrCount, api.ErrValue, api.ErrOrder, api.ErrArg, api.ErrFalse, api.ErrNone},
		ofReadings: {api.OK, api.ErrCount, api.ErrValue},
		ofNumbers:  {api.OK, api.ErrCount, api.ErrValue, api.ErrClash},
		ofWrong:    {api.OK, api.ErrCount, api.ErrValue, api.ErrState},
	} {
		for e, many := range told[number] {
			if is := slices.Contains(errors, api.Errno(e)); is && many < 20 || !is && many > 0 {
				t.Error("an error came too seldom, or is none of the function:", number, e, many)
			}
		}
	}
}

// Long lists are no exception.
func TestLongArguments(t *testing.T) {
	long, wide := make([]int, 1<<18), make([]api.Span, 1<<18)
	expect(t, "many places", pillar.Check(pillar.Profile{At: long, Ground: wide}), api.ErrCount)
	is, e := pillar.Holds(flat(3, 1), long)
	if is || e != api.OK {
		t.Error("many pillars:", is, e)
	}
	_, e = pillar.Mend(flat(3, 1), long, 1)
	expect(t, "many pillars", e, api.ErrFalse)
	_, e = pillar.Proves(flat(3, 1), long)
	expect(t, "many levels", e, api.ErrArg)
	_, e = pillar.Real(flat(3, 1), long, 0, 0, 1)
	expect(t, "many heights", e, api.ErrArg)
	for _, f := range []pillar.Finds{{Numbers: long}, {Numbers: long, Gaps: wide[1:]}, {Numbers: long, Gaps: wide}} {
		_, e = pillar.Readings(book(), f)
		expect(t, "many stones", e, api.ErrCount)
	}
	_, e = pillar.Readings(pillar.Roll{Gaps: wide}, finds("-", ""))
	expect(t, "a long roll", e, api.ErrCount)
}

// allowedArguments returns arguments for which no function has an error, but one of those of which one always has.
func allowedArguments(r *rand.Rand) arguments {
	for {
		x := arguments{p: anyProfile(r, 3+r.Intn(8), 1), r: anyRoll(r, 3+r.Intn(6))}
		x.bend, x.i, x.j = x.p.Bend.Lo, r.Intn(3), r.Intn(3)
		x.pillars, x.lost = anyHold(r, x.p), 1+r.Intn(3)
		x.levels, _ = pillar.Levels(x.p)
		for _, s := range x.p.Ground {
			x.heights = append(x.heights, s.Hi)
		}
		x.f = anyFinds(r, x.r, 2+r.Intn(4))
		a := ask(x)
		if (a.errors[ofNumbers] == api.OK) != (a.errors[ofWrong] == api.OK) {
			a.errors[ofNumbers], a.errors[ofWrong] = api.OK, api.OK
		}
		if a.errors == [12]api.Errno{} {
			return x
		}
	}
}

// No result shares memory with an argument or another result, nor do lists in one (R4).
func TestMemory(t *testing.T) {
	r := rand.New(rand.NewSource(2))
	for range 1000 {
		x := allowedArguments(r)
		before := x.copied()
		a, again := ask(x), ask(x)
		if !reflect.DeepEqual(a, again) {
			t.Error("two answers differ:", x, a, again)
		}
		expectApart(t, append(a.lists[:], a.numbers...))
		if !reflect.DeepEqual(x, before) {
			t.Error("arguments were changed:", x, before)
		}
		if third := ask(x); !reflect.DeepEqual(third, again) {
			t.Error("an answer is another one than before:", x, third, again)
		}
	}
}

// expectApart overwrites lists, up to where their memory ends, and reports those that were changed by that.
func expectApart(t *testing.T, lists [][]int) {
	t.Helper()
	for i, l := range lists {
		want := slices.Repeat(list(-7-i), len(l))
		copy(l, want)
		for j, other := range lists[:i] {
			if slices.Contains(other, -7-i) {
				t.Error("lists share memory:", j, i)
			}
		}
		for k := range cap(l) - len(l) {
			l[:cap(l)][len(l)+k] = -7 - i
		}
	}
	for i, l := range lists {
		if slices.ContainsFunc(l, func(n int) bool { return n != -7-i }) {
			t.Error("a list goes on in the memory of another one:", i, l)
		}
	}
}

// A list that is nil is the same as one that is empty (R3).
func TestNilIsEmpty(t *testing.T) {
	x := arguments{}
	y := arguments{
		p:       pillar.Profile{At: list(), Ground: []api.Span{}},
		heights: list(), pillars: list(), levels: list(),
		r: pillar.Roll{Gaps: []api.Span{}}, f: pillar.Finds{Gaps: []api.Span{}, Numbers: list()},
	}
	if a, b := ask(x), ask(y); !reflect.DeepEqual(a, b) || a.errors != [12]api.Errno(slices.Repeat([]api.Errno{api.ErrCount}, 12)) {
		t.Error(a, b)
	}
	x.p, y.p = hill(), hill()
	x.r, y.r = book(), book()
	x.j, y.j = 2, 2
	x.f, y.f = pillar.Finds{Numbers: list(none)}, pillar.Finds{Numbers: list(none), Gaps: []api.Span{}}
	want := [12]api.Errno{ofReal: api.ErrArg, ofProves: api.ErrArg, ofMend: api.ErrFalse, ofWrong: api.ErrState}
	if a, b := ask(x), ask(y); !reflect.DeepEqual(a, b) || a.errors != want {
		t.Error(a, b)
	}
}
