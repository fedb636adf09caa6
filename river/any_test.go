package river_test

import (
	"math"
	"math/rand"
	"reflect"
	"slices"
	"testing"

	"limitrophe/api"
	"limitrophe/river"
)

// arguments are those of all functions.
type arguments struct {
	m                              river.Map
	l                              []river.Map
	shore, cell, year, slow, owner int
	table                          []int
}

// answers has what all functions answer.
type answers struct {
	numbers [3][]int // of Far, Way and Owners
	holds   bool
	islands []river.Share
	changes [][]int
	law     []river.Map
	gains   [4][4]int
	last    int
	slows   []api.Span
	errors  [12]api.Errno // of all functions
}

// The functions, in the order in which the chapter declares them.
const (
	ofCheck = iota
	ofCheckYears
	ofFar
	ofHolds
	ofWay
	ofIslands
	ofOwners
	ofChanges
	ofLaw
	ofGains
	ofLast
	ofSlows
)

// The functions of a map, and those of years.
var (
	ofMaps  = [6]int{ofCheck, ofFar, ofHolds, ofWay, ofIslands, ofOwners}
	ofYears = [6]int{ofCheckYears, ofChanges, ofLaw, ofGains, ofLast, ofSlows}
)

// ask calls all functions.
func ask(x arguments) answers {
	var a answers
	a.errors[ofCheck] = river.Check(x.m)
	a.errors[ofCheckYears] = river.CheckYears(x.l)
	a.numbers[0], a.errors[ofFar] = river.Far(x.m, x.shore)
	a.holds, a.errors[ofHolds] = river.Holds(x.m, x.shore, x.table)
	a.numbers[1], a.errors[ofWay] = river.Way(x.m, x.shore, x.cell)
	a.islands, a.errors[ofIslands] = river.Islands(x.m)
	a.numbers[2], a.errors[ofOwners] = river.Owners(x.m)
	a.changes, a.errors[ofChanges] = river.Changes(x.l, x.year)
	a.law, a.errors[ofLaw] = river.Law(x.l, x.slow)
	a.gains, a.errors[ofGains] = river.Gains(x.l, x.slow)
	a.last, a.errors[ofLast] = river.Last(x.l, x.slow, x.cell)
	a.slows, a.errors[ofSlows] = river.Slows(x.l, x.cell, x.owner)
	return a
}

// besidesErrors reports whether some function answers something together with an error.
func (a answers) besidesErrors() bool {
	something := [12]bool{
		ofFar:     len(a.numbers[0]) > 0,
		ofHolds:   a.holds,
		ofWay:     len(a.numbers[1]) > 0,
		ofIslands: len(a.islands) > 0,
		ofOwners:  len(a.numbers[2]) > 0,
		ofChanges: len(a.changes) > 0,
		ofLaw:     len(a.law) > 0,
		ofGains:   a.gains != [4][4]int{},
		ofLast:    a.last != 0,
		ofSlows:   len(a.slows) > 0,
	}
	for number, e := range a.errors {
		if e != api.OK && something[number] {
			return true
		}
	}
	return false
}

// copied returns arguments that share no memory with other ones.
func (x arguments) copied() arguments {
	x.m, x.l, x.table = copyOf(x.m), copiesOf(x.l), slices.Clone(x.table)
	return x
}

// wild returns a number that is often not allowed.
func wild(r *rand.Rand) int {
	numbers := list(0, 0, 0, 1, 1, 1, 2, 2, 2, 3, 3, 4, 5, 12, 13, -1, -2, 143, 144, 145, math.MaxInt, math.MinInt, math.MaxInt-1, 1<<62, 1<<32)
	return numbers[r.Intn(len(numbers))]
}

// wildList returns a list of such numbers.
func wildList(r *rand.Rand, most int) []int {
	var l []int
	for range r.Intn(most + 1) {
		l = append(l, wild(r))
	}
	return l
}

// wildMap returns a map that is often not allowed.
func wildMap(r *rand.Rand) river.Map {
	m := river.Map{Wide: wild(r), High: wild(r), Cells: wildList(r, 12)}
	switch r.Intn(3) {
	case 0:
		m = withCell(smallMap(r), 0, wild(r))
	case 1:
		m = smallMap(r)
	}
	return m
}

// wildArguments returns arguments that are often not allowed.
func wildArguments(r *rand.Rand) arguments {
	x := arguments{m: wildMap(r), shore: wild(r), cell: wild(r), year: wild(r), slow: wild(r), owner: wild(r), table: wildList(r, 12)}
	if r.Intn(2) == 0 {
		x.table = wildList(r, 0)
		for range x.m.Cells {
			x.table = append(x.table, wild(r))
		}
	}
	x.l = anyYears(r, smallMap(r))
	switch year := r.Intn(len(x.l)); r.Intn(4) {
	case 0:
		x.l[year] = wildMap(r)
	case 1:
		x.l = append(x.l, x.l...)
	}
	return x
}

// Every function ends for all arguments, and changes none of them; and nothing comes with an error (P0.1).
func TestAnyArguments(t *testing.T) {
	r := rand.New(rand.NewSource(1))
	ask(arguments{})
	var allowed [2]int // maps, and years
	for range 20000 {
		x := wildArguments(r)
		before := x.copied()
		a := ask(x)
		for kind, functions := range [2][6]int{ofMaps, ofYears} {
			first := a.errors[functions[0]]
			if first == api.OK {
				allowed[kind]++
				continue
			}
			for _, number := range functions {
				if a.errors[number] != first {
					t.Error("another error than that of a map, or of years:", number, x, a)
				}
			}
		}
		if a.besidesErrors() {
			t.Error("something comes with an error:", x, a)
		}
		if !reflect.DeepEqual(x, before) {
			t.Error("arguments were changed:", x, before)
		}
	}
	if min(allowed[0], allowed[1]) < 5000 || max(allowed[0], allowed[1]) > 15000 {
		t.Error("too few, or too many arguments were allowed:", allowed)
	}
}

// Long lists are no exception.
func TestLongArguments(t *testing.T) {
	long := make([]int, 1<<18)
	for _, m := range []river.Map{{Wide: 3, High: 1, Cells: long}, {Wide: 1 << 9, High: 1 << 9, Cells: long}, {Wide: 1 << 18, High: 1, Cells: long}} {
		expect(t, "many cells", river.Check(m), api.ErrCount)
	}
	_, e := river.Holds(blank(3, 1), river.West, long)
	expect(t, "a long table", e, api.ErrCount)
	expect(t, "many years", river.CheckYears(make([]river.Map, 1<<16)), api.ErrCount)
}

// allowedArguments returns arguments for which no function has an error.
func allowedArguments(r *rand.Rand) arguments {
	for {
		m := smallMap(r)
		l := anyYears(r, m)
		x := arguments{m: m, l: l, shore: 1 + r.Intn(2), cell: r.Intn(len(m.Cells)), year: r.Intn(len(l)), slow: r.Intn(7), owner: r.Intn(4)}
		x.table, _ = river.Far(m, x.shore)
		if ask(x).errors == [12]api.Errno{} {
			return x
		}
	}
}

// No result shares memory with an argument or another result, nor do lists in one (R4).
func TestMemory(t *testing.T) {
	r := rand.New(rand.NewSource(2))
	for range 300 {
		x := allowedArguments(r)
		before := x.copied()
		a, again := ask(x), ask(x)
		if !reflect.DeepEqual(a, again) {
			t.Error("two answers differ:", x, a, again)
		}
		lists := append(a.numbers[:], a.changes...)
		for _, m := range a.law {
			lists = append(lists, m.Cells)
		}
		expectApart(t, lists)
		for i := range a.islands {
			a.islands[i] = nobodys(-7)
		}
		for i := range a.slows {
			a.slows[i] = span(-7, -7)
		}
		if !reflect.DeepEqual(x, before) {
			t.Error("arguments were changed:", x, before)
		}
		if third := ask(x); !reflect.DeepEqual(third, again) {
			t.Error("an answer is another one than before:", x, third, again)
		}
	}
}

// expectApart overwrites lists, up to where their memory ends, and reports those that were changed by that.
func expectApart(t *testing.T, lists [][]int) {
	t.Helper()
	for i, l := range lists {
		want := slices.Repeat(list(-7-i), len(l))
		copy(l, want)
		for j, other := range lists[:i] {
			if slices.Contains(other, -7-i) {
				t.Error("lists share memory:", j, i)
			}
		}
		for k := range cap(l) - len(l) {
			l[:cap(l)][len(l)+k] = -7 - i
		}
	}
	for i, l := range lists {
		if slices.ContainsFunc(l, func(n int) bool { return n != -7-i }) {
			t.Error("a list goes on in the memory of another one:", i, l)
		}
	}
}

// A list that is nil is the same as one that is empty (R3).
func TestNilIsEmpty(t *testing.T) {
	x := arguments{m: blank(3, 1), l: years("W.E"), shore: 1, table: nil}
	y := arguments{m: blank(3, 1), l: years("W.E"), shore: 1, table: list()}
	if a, b := ask(x), ask(y); !reflect.DeepEqual(a, b) || a.errors[ofHolds] != api.ErrCount {
		t.Error(a, b)
	}
	x, y = arguments{}, arguments{m: river.Map{Cells: list()}, l: []river.Map{}, table: list()}
	if a, b := ask(x), ask(y); !reflect.DeepEqual(a, b) || a.errors != [12]api.Errno(slices.Repeat([]api.Errno{api.ErrCount}, 12)) {
		t.Error(a, b)
	}
}
