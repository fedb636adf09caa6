package barter_test

import (
	"math"
	"math/rand"
	"reflect"
	"slices"
	"testing"

	"limitrophe/api"
	"limitrophe/barter"
)

// arguments are those of all functions.
type arguments struct {
	l                  barter.Land
	x                  barter.Exchange
	north, south, gain int
}

// answers has what all functions answer.
type answers struct {
	lists      [2][]int           // of Bound and Order
	exchanges  [3]barter.Exchange // of Now, Most and Even
	pairs      [4][2]int          // of Has, Gains, Waste and Price
	fair, best bool
	holds      bool
	errors     [functions]api.Errno // of all functions
}

// The functions, in the order in which the chapter declares them.
const (
	ofCheck = iota
	ofBound
	ofNow
	ofHas
	ofGains
	ofFair
	ofBest
	ofWaste
	ofPrice
	ofHolds
	ofOrder
	ofMost
	ofEven
	functions
)

// ask calls all functions.
func ask(x arguments) answers {
	var a answers
	a.errors[ofCheck] = barter.Check(x.l)
	a.lists[0], a.errors[ofBound] = barter.Bound(x.l)
	a.exchanges[0], a.errors[ofNow] = barter.Now(x.l)
	a.pairs[0][0], a.pairs[0][1], a.errors[ofHas] = barter.Has(x.l, x.x)
	a.pairs[1][0], a.pairs[1][1], a.errors[ofGains] = barter.Gains(x.l, x.x)
	a.fair, a.errors[ofFair] = barter.Fair(x.l, x.x)
	a.best, a.errors[ofBest] = barter.Best(x.l, x.x)
	a.pairs[2][0], a.pairs[2][1], a.errors[ofWaste] = barter.Waste(x.l, x.x)
	a.pairs[3][0], a.pairs[3][1], a.errors[ofPrice] = barter.Price(x.l, x.x)
	a.holds, a.errors[ofHolds] = barter.Holds(x.l, x.x, x.north, x.south)
	a.lists[1], a.errors[ofOrder] = barter.Order(x.l)
	a.exchanges[1], a.errors[ofMost] = barter.Most(x.l, x.gain)
	a.exchanges[2], a.errors[ofEven] = barter.Even(x.l)
	return a
}

// besidesErrors reports whether some function answers something together with an error.
func (a answers) besidesErrors() bool {
	isSome := func(x barter.Exchange) bool { return x.Whole != 0 || len(x.Parts) > 0 }
	something := [functions]bool{
		ofBound: len(a.lists[0]) > 0,
		ofNow:   isSome(a.exchanges[0]),
		ofHas:   a.pairs[0] != [2]int{},
		ofGains: a.pairs[1] != [2]int{},
		ofFair:  a.fair,
		ofBest:  a.best,
		ofWaste: a.pairs[2] != [2]int{},
		ofPrice: a.pairs[3] != [2]int{},
		ofHolds: a.holds,
		ofOrder: len(a.lists[1]) > 0,
		ofMost:  isSome(a.exchanges[1]),
		ofEven:  isSome(a.exchanges[2]),
	}
	for number, e := range a.errors {
		if e != api.OK && something[number] {
			return true
		}
	}
	return false
}

// copied returns arguments that share no memory with other ones.
func (x arguments) copied() arguments {
	x.l.Stretches, x.l.Villages = slices.Clone(x.l.Stretches), slices.Clone(x.l.Villages)
	x.x.Parts = slices.Clone(x.x.Parts)
	return x
}

// wild returns a number that is often not allowed.
func wild(r *rand.Rand) int {
	numbers := list(0, 0, 1, 1, 2, 2, 3, 4, 5, -1, -2, 7, 8, 9, 16, 17, 1000, 1001, 2000, 2001,
		math.MaxInt, math.MinInt, math.MaxInt-1, math.MinInt+1, 1<<62, 1<<32)
	return numbers[r.Intn(len(numbers))]
}

// wildList returns a list of such numbers, and wildStretches one of stretches.
func wildList(r *rand.Rand, most int) []int {
	var l []int
	for range r.Intn(most + 1) {
		l = append(l, wild(r))
	}
	return l
}
func wildStretches(r *rand.Rand, most int) []barter.Stretch {
	var l []barter.Stretch
	for range r.Intn(most + 1) {
		l = append(l, barter.Stretch{Owner: wild(r), North: wild(r), South: wild(r), Well: wild(r)})
	}
	return l
}

// wildArguments returns arguments that are often not allowed.
func wildArguments(r *rand.Rand) arguments {
	l := anyLand(r, 1+r.Intn(5), list(3, 1000)[r.Intn(2)])
	x := arguments{l: l, x: anyExchange(r, l, 1+r.Intn(6)), north: wild(r), south: wild(r), gain: wild(r)}
	if r.Intn(2) == 0 {
		x.x, x.north, x.south = pricedExchange(r, l, 1+r.Intn(6))
	}
	stretch := r.Intn(len(l.Stretches))
	switch r.Intn(12) {
	case 0:
		x.l = barter.Land{Stretches: wildStretches(r, 18), Villages: wildList(r, 10)}
	case 1:
		x.l.Villages = wildList(r, 3)
	case 2:
		x.l.Stretches[stretch].Owner = wild(r)
	case 3:
		x.l.Stretches[stretch].North = wild(r)
	case 4:
		x.l.Stretches[stretch].South = wild(r)
	case 5:
		x.l.Stretches[stretch].Well = wild(r)
	case 6:
		x.x = barter.Exchange{Whole: wild(r), Parts: wildList(r, 5)}
	case 7:
		x.x.Parts[stretch] = wild(r)
	}
	return x
}

// Every function ends for all arguments, and changes none of them; and nothing comes with an error (P0.1).
func TestAnyArguments(t *testing.T) {
	r := rand.New(rand.NewSource(1))
	ask(arguments{})
	var told [functions][14]int // how often a function had an error
	for range 30000 {
		x := wildArguments(r)
		before := x.copied()
		a := ask(x)
		for number, e := range a.errors {
			told[number][e]++
			if a.errors[ofCheck] != api.OK && e != a.errors[ofCheck] {
				t.Error("another error than that of a land:", number, x, a)
			}
			if a.errors[ofHas] != api.OK && number >= ofHas && number <= ofHolds && e != a.errors[ofHas] {
				t.Error("another error than that of an exchange:", number, x, a)
			}
		}
		if a.besidesErrors() {
			t.Error("something comes with an error:", x, a)
		}
		if !reflect.DeepEqual(x, before) {
			t.Error("arguments were changed:", x, before)
		}
	}
	ofAll := []api.Errno{api.OK, api.ErrCount, api.ErrValue, api.ErrArg, api.ErrClash}
	for number, counts := range told {
		errors := slices.Clone(ofAll)
		switch number {
		case ofWaste:
			errors = append(errors, api.ErrFalse, api.ErrNone)
		case ofPrice:
			errors = append(errors, api.ErrFalse)
		case ofMost:
			errors = append(errors, api.ErrNone)
		}
		for e, many := range counts {
			if is := slices.Contains(errors, api.Errno(e)); is && many < 100 || !is && many > 0 {
				t.Error("an error came too seldom, or is none of the function:", number, e, many)
			}
		}
	}
}

// Long lists are no exception.
func TestLongArguments(t *testing.T) {
	long := make([]int, 1<<18)
	a := ask(arguments{l: three(), x: give(1, long...), north: 1, south: 1})
	for number, e := range a.errors {
		if number >= ofHas && number <= ofHolds {
			expect(t, "many parts", e, api.ErrCount)
		} else {
			expect(t, "many parts", e, api.OK)
		}
	}
	l := three()
	l.Villages = long
	expect(t, "many villages", barter.Check(l), api.ErrCount)
	expect(t, "many stretches", barter.Check(land(make([]barter.Stretch, 1<<18)...)), api.ErrCount)
}

// No result shares memory with an argument or another result, nor with one of another call (R4).
func TestMemory(t *testing.T) {
	r := rand.New(rand.NewSource(2))
	for range 1000 {
		l := greatLand(r)
		x := arguments{l: l, north: 1, south: 1, gain: -r.Intn(3)}
		x.x, x.north, x.south = pricedExchange(r, l, 1+r.Intn(9))
		before := x.copied()
		a, again := ask(x), ask(x)
		if !reflect.DeepEqual(a, again) {
			t.Error("two answers differ:", x, a, again)
		}
		expectApart(t, [][]int{a.lists[0], a.lists[1], a.exchanges[0].Parts, a.exchanges[1].Parts, a.exchanges[2].Parts})
		if !reflect.DeepEqual(x, before) {
			t.Error("arguments were changed:", x, before)
		}
		if third := ask(x); !reflect.DeepEqual(third, again) {
			t.Error("an answer is another one than before:", x, third, again)
		}
	}
}

// expectApart overwrites lists, up to where their memory ends, and reports those that were changed by that.
func expectApart(t *testing.T, lists [][]int) {
	t.Helper()
	for i, l := range lists {
		whole := l[:cap(l)]
		for k := range whole {
			whole[k] = -7 - i
		}
	}
	for i, l := range lists {
		if slices.ContainsFunc(l, func(n int) bool { return n != -7-i }) {
			t.Error("lists share memory:", i, l)
		}
	}
}

// A list that is nil is the same as one that is empty (R3).
func TestNilIsEmpty(t *testing.T) {
	l := three()
	l.Villages = list()
	for _, x := range [][2]arguments{
		{{}, {l: barter.Land{Stretches: []barter.Stretch{}, Villages: list()}, x: barter.Exchange{Parts: list()}}},
		{{l: three()}, {l: l, x: barter.Exchange{Parts: list()}}},
		{{l: three(), x: give(1), north: 1}, {l: l, x: barter.Exchange{Whole: 1, Parts: list()}, north: 1}},
	} {
		if a, b := ask(x[0]), ask(x[1]); !reflect.DeepEqual(a, b) {
			t.Error(x, a, b)
		}
	}
}
