package strip_test

import (
	"math"
	"math/rand"
	"reflect"
	"slices"
	"testing"

	"limitrophe/api"
	"limitrophe/strip"
)

// arguments are those of all functions but the line.
type arguments struct {
	truth    []api.Point
	p, q     api.Point
	x        int
	partings []strip.Parting
	b        strip.Balance
	f        strip.Field
}

// answers has what all functions answer.
type answers struct {
	places   [2]strip.Place
	ends     [2]api.Ratio
	partings []strip.Parting
	is       [2]bool
	b        strip.Balance
	posts    strip.Posts
	met      []int
	errors   [10]api.Errno
}

// ask calls all functions.
func ask(l strip.Line, x arguments) answers {
	var a answers
	a.errors[0] = strip.Check(l)
	a.places[0], a.errors[1] = strip.Real(l, x.truth, x.p)
	a.places[1], a.errors[2] = strip.Where(l, x.p)
	a.ends[0], a.ends[1], a.errors[3] = strip.At(l, x.x)
	a.partings, a.errors[4] = strip.Partings(l, x.p)
	a.is[0], a.errors[5] = strip.Parts(l, x.p, x.partings)
	a.b, a.errors[6] = strip.Balanced(l, x.p)
	a.is[1], a.errors[7] = strip.Balances(l, x.p, x.b)
	a.posts, a.errors[8] = strip.Count(l, x.f)
	a.met, a.errors[9] = strip.Meets(l, x.p, x.q)
	return a
}

// empty reports whether answers have nothing but errors.
func (a answers) empty() bool {
	a.errors = [10]api.Errno{}
	return reflect.DeepEqual(a, answers{})
}

// wild returns a number that is often not allowed.
func wild(r *rand.Rand) int {
	numbers := list(0, 0, 1, 1, 2, 3, 5, -1, -2, 7, strip.Max, -strip.Max, strip.Max+1, -strip.Max-1, 10*strip.Max, math.MaxInt, math.MinInt, math.MaxInt-1, math.MaxInt/2)
	return numbers[r.Intn(len(numbers))]
}

// wildPoint returns such a point.
func wildPoint(r *rand.Rand) api.Point { return at(wild(r), wild(r)) }

// wildArguments returns arguments that are often not allowed.
func wildArguments(r *rand.Rand, l strip.Line) arguments {
	x := arguments{p: wildPoint(r), q: wildPoint(r), x: wild(r), b: strip.Balance{Stretch: wild(r)}}
	for range len(l.Pillars) + r.Intn(2) {
		x.truth = append(x.truth, wildPoint(r))
		x.partings = append(x.partings, strip.Parting{From: wildPoint(r), To: wildPoint(r)})
	}
	for i := range x.b.Weights {
		x.b.Weights[i] = wild(r)
	}
	x.f = field(wild(r), wild(r), wild(r), wild(r))
	return x
}

// wildLine returns a line that is often not allowed.
func wildLine(r *rand.Rand) strip.Line {
	l := strip.Line{Closed: r.Intn(2) == 0}
	for range r.Intn(5) {
		l.Pillars = append(l.Pillars, box(wild(r), wild(r), wild(r), wild(r)))
	}
	return l
}

// Every function ends for all arguments, and changes none of them (P0.1).
func TestAnyArguments(t *testing.T) {
	r := rand.New(rand.NewSource(9))
	ask(strip.Line{}, arguments{})
	for i := range 20000 {
		l := wildLine(r)
		if i%2 == 0 {
			l = anyLine(r)
		}
		x := wildArguments(r, l)
		before := copyOf(l)
		kept := x
		kept.truth, kept.partings = slices.Clone(x.truth), slices.Clone(x.partings)
		a := ask(l, x)
		for _, e := range a.errors {
			if a.errors[0] != api.OK && (e != a.errors[0] || !a.empty()) {
				t.Error(l, x, a)
			}
		}
		if !reflect.DeepEqual(l, before) || !reflect.DeepEqual(x, kept) {
			t.Error("arguments were changed:", l, before, x, kept)
		}
	}
}

// With an error every other result is zero.
func TestNothingWithErrors(t *testing.T) {
	far := at(10001, 0)
	a := ask(square(), arguments{p: far, q: far, f: field(0, 999, 0, 999)})
	for number, e := range a.errors {
		if (e == api.OK) != (number == 0) {
			t.Error(number, e)
		}
	}
	if !a.empty() {
		t.Error(a)
	}
}

// No result shares memory with an argument or another result.
func TestMemory(t *testing.T) {
	l := slope()
	x := arguments{truth: points(at(1, 1), at(10, 4)), p: at(6, 3), q: at(6, 0), partings: parted(), f: field(0, 9, 0, 9)}
	a, again := ask(l, x), ask(l, x)
	if !reflect.DeepEqual(a, again) {
		t.Error(a, again)
	}
	for i := range a.partings {
		a.partings[i] = strip.Parting{From: at(-7, -7), To: at(-7, -7)}
	}
	for i := range a.met {
		a.met[i] = -7
	}
	if !reflect.DeepEqual(l, slope()) || !reflect.DeepEqual(x.partings, parted()) || !slices.Equal(x.truth, points(at(1, 1), at(10, 4))) {
		t.Error("arguments were changed:", l, x)
	}
	if third := ask(l, x); !reflect.DeepEqual(third, again) {
		t.Error(third, again)
	}
}

// The greatest lines and fields are counted soon.
func TestGreatestFieldsEnd(t *testing.T) {
	all := strip.Line{Closed: true, Pillars: slices.Repeat([]strip.Box{box(-strip.Max, strip.Max, -strip.Max, strip.Max)}, strip.MaxPillars)}
	posts, e := strip.Count(all, field(-50, 49, -50, 49))
	if (posts != strip.Posts{Strip: strip.MaxPosts}) || e != api.OK {
		t.Error(posts, e)
	}
	wide := strip.Line{Closed: true, Pillars: slices.Repeat([]strip.Box{box(-strip.Max, strip.Max, 0, 0)}, strip.MaxPillars)}
	posts, e = strip.Count(wide, field(-5000, 4999, 0, 0))
	if (posts != strip.Posts{Strip: strip.MaxPosts}) || e != api.OK {
		t.Error(posts, e)
	}
	wide.Pillars[7], wide.Pillars[12] = stone(-strip.Max, 0), stone(strip.Max, 0)
	posts, e = strip.Count(wide, field(-5000, 4999, 0, 0))
	if (posts != strip.Posts{On: strip.MaxPosts}) || e != api.OK {
		t.Error(posts, e)
	}
}
