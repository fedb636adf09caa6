package ridge_test

import (
	"math"
	"math/rand"
	"reflect"
	"slices"
	"testing"

	"limitrophe/api"
	"limitrophe/ridge"
)

// arguments are those of all functions but the ground.
type arguments struct {
	truth  []int // of Drains
	sea    int   // of Passes
	way    []int // of Crosses
	cells  []int // of Parts
	height int   // of Parts
}

// answers has what all functions answer.
type answers struct {
	drains  []ridge.Drain
	passes  []api.Span
	saddle  api.Span
	crosses api.Span
	numbers [4][]int // of Crossing, Ridge, Doubt and Saddles
	parts   bool
	sides   []ridge.Side
	errors  [11]api.Errno // of all functions
}

// The functions, in the order in which the chapter declares them.
const (
	ofCheck = iota
	ofDrains
	ofPasses
	ofSaddle
	ofCrossing
	ofCrosses
	ofRidge
	ofParts
	ofSides
	ofDoubt
	ofSaddles
)

// ask calls all functions.
func ask(g ridge.Ground, x arguments) answers {
	var a answers
	a.errors[ofCheck] = ridge.Check(g)
	a.drains, a.errors[ofDrains] = ridge.Drains(g, x.truth)
	a.passes, a.errors[ofPasses] = ridge.Passes(g, x.sea)
	a.saddle, a.errors[ofSaddle] = ridge.Saddle(g)
	a.numbers[0], a.errors[ofCrossing] = ridge.Crossing(g)
	a.crosses, a.errors[ofCrosses] = ridge.Crosses(g, x.way)
	a.numbers[1], a.errors[ofRidge] = ridge.Ridge(g)
	a.parts, a.errors[ofParts] = ridge.Parts(g, x.cells, x.height)
	a.sides, a.errors[ofSides] = ridge.Sides(g)
	a.numbers[2], a.errors[ofDoubt] = ridge.Doubt(g)
	a.numbers[3], a.errors[ofSaddles] = ridge.Saddles(g)
	return a
}

// besidesErrors reports whether some function answers something together with an error.
func (a answers) besidesErrors() bool {
	something := [11]bool{
		ofDrains:   len(a.drains) > 0,
		ofPasses:   len(a.passes) > 0,
		ofSaddle:   a.saddle != api.Span{},
		ofCrossing: len(a.numbers[0]) > 0,
		ofCrosses:  a.crosses != api.Span{},
		ofRidge:    len(a.numbers[1]) > 0,
		ofParts:    a.parts,
		ofSides:    len(a.sides) > 0,
		ofDoubt:    len(a.numbers[2]) > 0,
		ofSaddles:  len(a.numbers[3]) > 0,
	}
	for number, e := range a.errors {
		if e != api.OK && something[number] {
			return true
		}
	}
	return false
}

// wild returns a number that is often not allowed.
func wild(r *rand.Rand) int {
	numbers := list(0, 0, 0, 1, 1, 2, 2, 3, 4, 5, -1, -2, 99, 100, 101, 10000, 10001, math.MaxInt, math.MinInt, math.MaxInt-1, math.MaxInt/2)
	return numbers[r.Intn(len(numbers))]
}

// wildList returns a list of such numbers.
func wildList(r *rand.Rand, most int) []int {
	var l []int
	for range r.Intn(most + 1) {
		l = append(l, wild(r))
	}
	return l
}

// wildGround returns a ground that is often not allowed.
func wildGround(r *rand.Rand) ridge.Ground {
	g := ridge.Ground{Wide: wild(r), Seas: wildList(r, 6)}
	for range r.Intn(7) {
		lo := wild(r)
		g.Heights = append(g.Heights, span(lo, wild(r)))
	}
	return g
}

// wildArguments returns arguments that are often not allowed.
func wildArguments(r *rand.Rand, g ridge.Ground) arguments {
	x := arguments{truth: wildList(r, 6), sea: wild(r), way: wildList(r, 6), cells: wildList(r, 6), height: wild(r)}
	if r.Intn(2) == 0 && ridge.Check(g) == api.OK {
		x.truth = anyTruth(r, g)
		x.truth[r.Intn(len(x.truth))] += r.Intn(3) - 1
	}
	if r.Intn(2) == 0 {
		slices.Sort(x.cells)
	}
	return x
}

// Every function ends for all arguments, and changes none of them; and nothing comes with an error (P0.1).
func TestAnyArguments(t *testing.T) {
	r := rand.New(rand.NewSource(1))
	ask(ridge.Ground{}, arguments{})
	for i := range 20000 {
		g := wildGround(r)
		if i%2 == 0 {
			g = smallGround(r, 1<<20)
		}
		if i%100 == 0 {
			g = greatGround(r)
		}
		x := wildArguments(r, g)
		before := copyOf(g)
		kept := arguments{slices.Clone(x.truth), x.sea, slices.Clone(x.way), slices.Clone(x.cells), x.height}
		a := ask(g, x)
		for _, e := range a.errors {
			if a.errors[ofCheck] != api.OK && e != a.errors[ofCheck] {
				t.Error(g, x, a)
			}
		}
		if a.besidesErrors() {
			t.Error("something comes with an error:", g, x, a)
		}
		if !reflect.DeepEqual(g, before) || !reflect.DeepEqual(x, kept) {
			t.Error("arguments were changed:", g, x)
		}
	}
}

// Long lists are no exception.
func TestLongArguments(t *testing.T) {
	way, cells := list(1), make([]int, 1<<18)
	for range 1 << 18 {
		way = append(way, 2, 1)
	}
	way = append(way, 2, 3)
	if s, e := ridge.Crosses(ground(one), way); s != span(7, 9) || e != api.OK {
		t.Error(s, e)
	}
	_, e := ridge.Parts(ground(one), cells, 0)
	expect(t, "many cells of a sea", e, api.ErrArg)
	_, e = ridge.Parts(ground(one), slices.Repeat(list(1), 1<<18), 0)
	expect(t, "a cell many times", e, api.ErrOrder)
	_, e = ridge.Drains(ground(one), cells)
	expect(t, "a long truth", e, api.ErrArg)
	g := ridge.Ground{Wide: 1 << 17, Heights: make([]api.Span, 1<<18), Seas: cells}
	expect(t, "many cells", ridge.Check(g), api.ErrCount)
}

// No result shares memory with an argument or another result.
func TestMemory(t *testing.T) {
	for _, text := range []string{one, two, three, "A 1-4 9-12 2-5 8-11 B", "A 5 7 B / 8 2 9 6"} {
		g := ground(text)
		los, _ := endsOf(g)
		ridgeOf, _ := ridge.Ridge(g)
		crossing, _ := ridge.Crossing(g)
		x := arguments{los, 1, crossing, ridgeOf, 0}
		before, kept := copyOf(g), arguments{slices.Clone(los), 1, slices.Clone(crossing), slices.Clone(ridgeOf), 0}
		a, again := ask(g, x), ask(g, x)
		if !reflect.DeepEqual(a, again) || a.errors != [11]api.Errno{} {
			t.Error(text, a, again)
		}
		spoil(a)
		if !reflect.DeepEqual(g, before) || !reflect.DeepEqual(x, kept) {
			t.Error("arguments were changed:", text, g, x)
		}
		if third := ask(g, x); !reflect.DeepEqual(third, again) {
			t.Error(text, third, again)
		}
	}
}

// spoil overwrites all lists of answers.
func spoil(a answers) {
	for _, l := range a.numbers {
		for i := range l {
			l[i] = -7
		}
	}
	for i := range a.drains {
		a.drains[i] = -7
	}
	for i := range a.passes {
		a.passes[i] = span(-7, -7)
	}
	for i := range a.sides {
		a.sides[i] = side("FSE")
	}
}

// A list that is nil is the same as one that is empty.
func TestNilIsEmpty(t *testing.T) {
	empty := ridge.Ground{Wide: 1, Heights: []api.Span{}, Seas: list()}
	for _, g := range []ridge.Ground{{Wide: 1}, empty, ground(one), ground(two)} {
		a, b := ask(g, arguments{sea: 1}), ask(g, arguments{list(), 1, list(), list(), 0})
		if !reflect.DeepEqual(a, b) {
			t.Error(g, a, b)
		}
	}
	if a, b := ask(ridge.Ground{Wide: 1}, arguments{sea: 1}), ask(empty, arguments{sea: 1}); a.errors != b.errors {
		t.Error(a, b)
	}
}
