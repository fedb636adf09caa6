package silence_test

import (
	"math"
	"math/rand"
	"reflect"
	"slices"
	"testing"

	"limitrophe/api"
	"limitrophe/silence"
)

// arguments are those of all functions.
type arguments struct {
	f       silence.File
	truth   []int
	owner   int
	paper   int
	list    []int
	windows []int
}

// answers has what all functions answer.
type answers struct {
	holds   bool
	chains  []api.Span
	arises  []int
	owner   int
	owners  []int
	truth   []int
	since   api.Span
	fewest  []int
	shows   bool
	windows []int
	proves  int
	errors  [functions]api.Errno // of all functions
}

// The functions, in the order in which the chapter declares them.
const (
	ofCheck = iota
	ofHolds
	ofChains
	ofArises
	ofOwner
	ofOwners
	ofTruth
	ofSince
	ofFewest
	ofShows
	ofWindows
	ofProves
	functions
)

// ask calls all functions.
func ask(x arguments) answers {
	var a answers
	a.errors[ofCheck] = silence.Check(x.f)
	a.holds, a.errors[ofHolds] = silence.Holds(x.f, x.truth)
	a.chains, a.errors[ofChains] = silence.Chains(x.f, x.truth)
	a.arises, a.errors[ofArises] = silence.Arises(x.f, x.truth)
	a.owner, a.errors[ofOwner] = silence.Owner(x.f, x.truth)
	a.owners, a.errors[ofOwners] = silence.Owners(x.f)
	a.truth, a.errors[ofTruth] = silence.Truth(x.f, x.owner)
	a.since, a.errors[ofSince] = silence.Since(x.f, x.owner)
	a.fewest, a.errors[ofFewest] = silence.Fewest(x.f, x.truth, x.paper)
	a.shows, a.errors[ofShows] = silence.Shows(x.f, x.truth, x.paper, x.list)
	a.windows, a.errors[ofWindows] = silence.Windows(x.f, x.truth, x.paper)
	a.proves, a.errors[ofProves] = silence.Proves(x.f, x.truth, x.paper, x.windows)
	return a
}

// besidesErrors reports whether some function answers something together with an error.
func (a answers) besidesErrors() bool {
	something := [functions]bool{
		ofHolds:   a.holds,
		ofChains:  len(a.chains) > 0,
		ofArises:  len(a.arises) > 0,
		ofOwner:   a.owner != 0,
		ofOwners:  len(a.owners) > 0,
		ofTruth:   len(a.truth) > 0,
		ofSince:   a.since != api.Span{},
		ofFewest:  len(a.fewest) > 0,
		ofShows:   a.shows,
		ofWindows: len(a.windows) > 0,
		ofProves:  a.proves != 0,
	}
	for number, e := range a.errors {
		if e != api.OK && something[number] {
			return true
		}
	}
	return false
}

// copied returns arguments that share no memory with other ones.
func (x arguments) copied() arguments {
	x.f, x.truth, x.list, x.windows = copied(x.f), slices.Clone(x.truth), slices.Clone(x.list), slices.Clone(x.windows)
	return x
}

// wild returns a number that is often not allowed.
func wild(r *rand.Rand) int {
	numbers := []int{0, 0, 1, 1, 2, 2, 3, 4, 5, -1, -2, 15, 16, 17, 199, 200, 201, 499, 500, 501, 2996, 2997, 2999, 3000, 3001,
		math.MaxInt, math.MinInt, math.MaxInt - 1, math.MinInt + 1, 1 << 62, 1 << 32}
	return numbers[r.Intn(len(numbers))]
}

// tameArguments returns arguments of which all are allowed, or nearly so.
func tameArguments(r *rand.Rand) arguments {
	x := arguments{owner: r.Intn(3)}
	x.f, x.truth, x.paper = anyRight(r, []int{5, 16}[r.Intn(2)])
	x.list, x.windows = anyList(r, x.f, x.truth, x.paper), anyWindows(r, x.f, x.truth, x.paper)
	if r.Intn(4) == 0 {
		x.list, _ = silence.Fewest(x.f, x.truth, x.paper)
		x.windows, _ = silence.Windows(x.f, x.truth, x.paper)
	}
	return x
}

// wildArguments returns arguments of which one is often not allowed.
func wildArguments(r *rand.Rand) arguments {
	x := tameArguments(r)
	if r.Intn(3) == 0 {
		wildFile(r, &x.f)
	} else {
		wildTruth(r, &x)
	}
	return x
}

// wildFile changes something of a file.
func wildFile(r *rand.Rand, f *silence.File) {
	p := &f.Papers[r.Intn(len(f.Papers))]
	switch r.Intn(9) {
	case 0:
		f.Years = wild(r)
	case 1:
		f.Gap = wild(r)
	case 2:
		f.Papers = append(f.Papers, make([]silence.Paper, r.Intn(18))...)
	case 3, 4:
		*[]*int{&p.Side, &p.Year.Lo, &p.Year.Hi}[r.Intn(3)] = wild(r)
	case 5:
		p.Year = span(wild(r), wild(r))
	case 6:
		p.Year.Hi += 1 + r.Intn(4)
	case 7:
		slices.Reverse(f.Papers)
	case 8:
		f.Papers = f.Papers[:r.Intn(len(f.Papers)+1)]
	}
}

// wildTruth changes something of a truth, or of what is asked besides.
func wildTruth(r *rand.Rand, x *arguments) {
	year := &x.truth[r.Intn(len(x.truth))]
	switch r.Intn(10) {
	case 0:
		x.truth = x.truth[:r.Intn(len(x.truth)+1)]
	case 1:
		x.truth = append(x.truth, make([]int, r.Intn(3))...)
	case 2:
		*year += r.Intn(5) - 2
	case 3:
		*year = wild(r)
	case 4, 5:
		x.owner = wild(r)
	case 6:
		x.paper = wild(r)
	case 7:
		x.paper = r.Intn(len(x.f.Papers) + 1)
	case 8:
		x.list = append(x.list, wild(r))
	case 9:
		x.windows = append(x.windows, wild(r))
	}
}

// firstOf returns the function whose errors another one has first.
func firstOf(number int) int {
	switch number {
	case ofArises, ofOwner, ofFewest:
		return ofChains
	case ofShows, ofWindows, ofProves:
		return ofFewest
	case ofChains:
		return ofHolds
	}
	return ofCheck
}

// errorsOf returns the errors of a function, as the chapter's table has them, and OK.
func errorsOf(number int) []api.Errno {
	ofFiles := []api.Errno{api.OK, api.ErrValue, api.ErrCount, api.ErrOrder}
	switch number {
	case ofChains, ofArises, ofOwner:
		return append(ofFiles, api.ErrFalse)
	case ofTruth, ofSince:
		return append(ofFiles, api.ErrNone)
	case ofFewest, ofShows, ofWindows, ofProves:
		return append(ofFiles, api.ErrFalse, api.ErrArg, api.ErrNone)
	}
	return ofFiles
}

// Every function ends for all arguments, and changes none of them; and nothing comes with an error (P0.1).
func TestAnyArguments(t *testing.T) {
	r := rand.New(rand.NewSource(31))
	ask(arguments{})
	var told [functions][14]int // how often a function had an error
	for range 12000 {
		x := wildArguments(r)
		before := x.copied()
		a := ask(x)
		for number, e := range a.errors {
			told[number][e]++
			if first := a.errors[firstOf(number)]; first != api.OK && e != first {
				t.Error("another error than that of a function whose errors come first:", number, x, a)
			}
		}
		if a.besidesErrors() {
			t.Error("something comes with an error:", x, a)
		}
		if !reflect.DeepEqual(x, before) {
			t.Error("arguments were changed:", x, before)
		}
	}
	for number, counts := range told {
		errors := errorsOf(number)
		for e, many := range counts {
			if is := slices.Contains(errors, api.Errno(e)); is && many < 50 || !is && many > 0 {
				t.Error("an error came too seldom, or is none of the function:", number, e, many)
			}
		}
	}
}

// Numbers that are anything, and nothing else, are no exception (P0.1).
func TestAnyNumbers(t *testing.T) {
	r := rand.New(rand.NewSource(33))
	numbers := func() []int {
		var list []int
		for range r.Intn(18) {
			list = append(list, wild(r))
		}
		return list
	}
	for range 20000 {
		x := arguments{f: file(wild(r), wild(r)), truth: numbers(), owner: wild(r), paper: wild(r), list: numbers(), windows: numbers()}
		for range r.Intn(18) {
			x.f.Papers = append(x.f.Papers, of(wild(r), wild(r), wild(r)))
		}
		if a := ask(x); a.besidesErrors() {
			t.Error("something comes with an error:", x, a)
		}
	}
}

// Long lists are no exception.
func TestLongArguments(t *testing.T) {
	const long = 1 << 18
	f := shown()
	expect(t, "many papers", silence.Check(file(1, 1, make([]silence.Paper, long)...)), api.ErrCount)
	_, e := silence.Holds(f, make([]int, long))
	expect(t, "a long truth", e, api.ErrCount)
	_, e = silence.Arises(f, make([]int, long))
	expect(t, "a long truth, and what arises", e, api.ErrCount)
	is, e := silence.Shows(f, first(f), 4, make([]int, long))
	if is || e != api.OK {
		t.Error("a long list:", is, e)
	}
	_, e = silence.Shows(f, first(f), 4, append(make([]int, long), 5))
	expect(t, "a long list that ends with no paper", e, api.ErrArg)
	_, e = silence.Proves(f, first(f), 4, make([]int, long))
	expect(t, "many windows", e, api.ErrOrder)
	var rising []int
	for i := range long {
		rising = append(rising, 1700+i)
	}
	_, e = silence.Proves(f, first(f), 4, rising)
	expect(t, "many windows in their order", e, api.ErrValue)
	_, e = silence.Proves(f, first(f), 4, rising[:60])
	expect(t, "a window of each year", e, api.ErrFalse)
}

// No result shares memory with an argument or another result, nor with one of another call (R4).
func TestMemory(t *testing.T) {
	r := rand.New(rand.NewSource(32))
	for range 1000 {
		x := tameArguments(r)
		before := x.copied()
		a, again := ask(x), ask(x)
		if !reflect.DeepEqual(a, again) {
			t.Error("two answers differ:", x, a, again)
		}
		expectApart(t, a.arises, a.owners, a.truth, a.fewest, a.windows)
		fill(a.chains, span(-7, -8))
		if !reflect.DeepEqual(x, before) {
			t.Error("arguments were changed:", x, before)
		}
		if third := ask(x); !reflect.DeepEqual(third, again) {
			t.Error("an answer is another one than before:", x, third, again)
		}
	}
}

// fill overwrites a list, up to where its memory ends.
func fill[T any](list []T, with T) {
	list = list[:cap(list)]
	for i := range list {
		list[i] = with
	}
}

// expectApart overwrites lists, up to where their memory ends, and reports those that were changed by that.
func expectApart(t *testing.T, lists ...[]int) {
	t.Helper()
	for i, l := range lists {
		fill(l, -7-i)
	}
	for i, l := range lists {
		if slices.ContainsFunc(l, func(n int) bool { return n != -7-i }) {
			t.Error("lists share memory:", i, l)
		}
	}
}

// A list that is nil is the same as one that is empty (R3).
func TestNilIsEmpty(t *testing.T) {
	for _, f := range []silence.File{file(0, 1), file(1, 1), file(500, 200), shown()} {
		for paper := -1; paper < 6; paper++ {
			null := arguments{f: f, owner: silence.Nobody, paper: paper}
			empty := null
			empty.truth, empty.list, empty.windows = l(), []int{}, []int{}
			if len(f.Papers) == 0 {
				empty.f.Papers = []silence.Paper{}
			}
			if a, b := ask(null), ask(empty); !reflect.DeepEqual(a, b) {
				t.Error(f, paper, a, b)
			}
			null.truth, empty.truth = first(f), first(f)
			if a, b := ask(null), ask(empty); !reflect.DeepEqual(a, b) {
				t.Error("in a truth:", f, paper, a, b)
			}
		}
	}
}
