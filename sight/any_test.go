package sight_test

import (
	"math"
	"math/rand"
	"reflect"
	"slices"
	"testing"

	"limitrophe/api"
	"limitrophe/sight"
)

// arguments are those of all functions but the net.
type arguments struct {
	pillar int
	to     api.Point
	p      sight.Proof
}

// answers has what all functions answer.
type answers struct {
	numbers [3][]int // of Off, Loose and Movers
	bounds  []sight.Bound
	corners []sight.Spot
	x, y    api.Span
	ratios  [2]api.Ratio   // of Reach and Proves
	proofs  [2]sight.Proof // of Why and Clash
	refutes bool
	convict int
	errors  [13]api.Errno // of all functions
}

// The functions, in the order in which the chapter declares them.
const (
	ofCheck = iota
	ofOff
	ofBounds
	ofCorners
	ofBox
	ofReach
	ofWhy
	ofProves
	ofClash
	ofRefutes
	ofLoose
	ofMovers
	ofConvict
)

// ask calls all functions.
func ask(n sight.Net, x arguments) answers {
	var a answers
	a.errors[ofCheck] = sight.Check(n)
	a.numbers[0], a.errors[ofOff] = sight.Off(n)
	a.bounds, a.errors[ofBounds] = sight.Bounds(n, x.pillar)
	a.corners, a.errors[ofCorners] = sight.Corners(n, x.pillar)
	a.x, a.y, a.errors[ofBox] = sight.Box(n, x.pillar)
	a.ratios[0], a.errors[ofReach] = sight.Reach(n, x.pillar, x.to)
	a.proofs[0], a.errors[ofWhy] = sight.Why(n, x.pillar, x.to)
	a.ratios[1], a.errors[ofProves] = sight.Proves(n, x.pillar, x.to, x.p)
	a.proofs[1], a.errors[ofClash] = sight.Clash(n, x.pillar)
	a.refutes, a.errors[ofRefutes] = sight.Refutes(n, x.pillar, x.p)
	a.numbers[1], a.errors[ofLoose] = sight.Loose(n, x.pillar)
	a.numbers[2], a.errors[ofMovers] = sight.Movers(n)
	a.convict, a.errors[ofConvict] = sight.Convict(n)
	return a
}

// isNoProof reports whether a proof has nothing.
func isNoProof(p sight.Proof) bool { return len(p.Bounds) == 0 && len(p.Weights) == 0 && p.Times == 0 }

// besidesErrors reports whether some function answers something together with an error.
func (a answers) besidesErrors() bool {
	something := [13]bool{
		ofOff:     len(a.numbers[0]) > 0,
		ofBounds:  len(a.bounds) > 0,
		ofCorners: len(a.corners) > 0,
		ofBox:     a.x != api.Span{} || a.y != api.Span{},
		ofReach:   a.ratios[0] != api.Ratio{},
		ofWhy:     !isNoProof(a.proofs[0]),
		ofProves:  a.ratios[1] != api.Ratio{},
		ofClash:   !isNoProof(a.proofs[1]),
		ofRefutes: a.refutes,
		ofLoose:   len(a.numbers[1]) > 0,
		ofMovers:  len(a.numbers[2]) > 0,
		ofConvict: a.convict != 0,
	}
	for number, e := range a.errors {
		if e != api.OK && something[number] {
			return true
		}
	}
	return false
}

// wild returns a number that is often not allowed.
func wild(r *rand.Rand) int {
	numbers := list(0, 0, 0, 1, 1, 2, 2, 3, 5, -1, -2, -50, 50, 51, 1000, 1001, 1000000, 1000001, math.MaxInt, math.MinInt, math.MaxInt-1, math.MaxInt/2)
	return numbers[r.Intn(len(numbers))]
}

// wildPoint returns such a point.
func wildPoint(r *rand.Rand) api.Point {
	x := wild(r)
	return at(x, wild(r))
}

// wildNet returns a net that is often not allowed.
func wildNet(r *rand.Rand) sight.Net {
	var n sight.Net
	for range r.Intn(4) {
		n.Pillars = append(n.Pillars, wildPoint(r))
	}
	for range r.Intn(3) {
		s := sight.Sight{Right: wildPoint(r), Left: wildPoint(r)}
		s.From, s.To = wild(r), wild(r)
		n.Sights = append(n.Sights, s)
	}
	return n
}

// wildArguments returns arguments that are often not allowed.
func wildArguments(r *rand.Rand) arguments {
	x := arguments{pillar: r.Intn(4) - 1, to: wildPoint(r)}
	x.p.Times = wild(r)
	for range r.Intn(4) {
		x.p.Bounds = append(x.p.Bounds, r.Intn(6)-1)
		x.p.Weights = append(x.p.Weights, wild(r))
	}
	if r.Intn(10) == 0 {
		x.p.Weights = append(x.p.Weights, 1)
	}
	return x
}

// Every function ends for all arguments, and changes none of them; and nothing comes with an error (P0.1).
func TestAnyArguments(t *testing.T) {
	r := rand.New(rand.NewSource(1))
	ask(sight.Net{}, arguments{})
	for i := range 20000 {
		n := wildNet(r)
		if i%2 == 0 {
			n = anyNet(r)
		}
		x := wildArguments(r)
		before, kept := copyOf(n), x
		kept.p.Bounds, kept.p.Weights = slices.Clone(x.p.Bounds), slices.Clone(x.p.Weights)
		a := ask(n, x)
		for _, e := range a.errors {
			if a.errors[ofCheck] != api.OK && e != a.errors[ofCheck] {
				t.Error(n, x, a)
			}
		}
		if a.besidesErrors() {
			t.Error("something comes with an error:", n, x, a)
		}
		if !reflect.DeepEqual(n, before) || !reflect.DeepEqual(x, kept) {
			t.Error("arguments were changed:", n, x)
		}
	}
}

// No result shares memory with an argument or another result.
func TestMemory(t *testing.T) {
	for _, x := range []struct {
		n sight.Net
		arguments
	}{
		{three(), arguments{2, at(1, 0), proof(5, list(0, 2), list(1, 2))}},
		{four(), arguments{2, at(1, 0), proof(0, list(2, 3, 4), list(9, 10, 1))}},
	} {
		before, p := copyOf(x.n), proof(x.p.Times, slices.Clone(x.p.Bounds), slices.Clone(x.p.Weights))
		a, again := ask(x.n, x.arguments), ask(x.n, x.arguments)
		if !reflect.DeepEqual(a, again) {
			t.Error(a, again)
		}
		spoil(a)
		if !reflect.DeepEqual(x.n, before) || !reflect.DeepEqual(x.p, p) {
			t.Error("arguments were changed:", x)
		}
		if third := ask(x.n, x.arguments); !reflect.DeepEqual(third, again) {
			t.Error(third, again)
		}
	}
}

// spoil overwrites all lists of answers.
func spoil(a answers) {
	lists := append(a.numbers[:], a.proofs[0].Bounds, a.proofs[0].Weights, a.proofs[1].Bounds, a.proofs[1].Weights)
	for _, l := range lists {
		for i := range l {
			l[i] = -7
		}
	}
	for i := range a.bounds {
		a.bounds[i] = b(-7, -7, -7)
	}
	for i := range a.corners {
		a.corners[i] = spot(-7, -7)
	}
}

// A list that is nil is the same as one that is empty.
func TestNilIsEmpty(t *testing.T) {
	bare := sight.Net{Pillars: []api.Point{at(1, 2)}}
	empty := sight.Net{Pillars: bare.Pillars, Sights: []sight.Sight{}}
	x := arguments{0, at(1, 0), sight.Proof{}}
	y := arguments{0, at(1, 0), proof(0, list(), list())}
	a, other := ask(bare, x), ask(empty, y)
	if a.errors != other.errors || !slices.Equal(a.bounds, other.bounds) || !slices.Equal(a.corners, other.corners) {
		t.Error(a, other)
	}
}
