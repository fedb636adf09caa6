package sheet_test

import (
	"math"
	"math/rand"
	"reflect"
	"slices"
	"testing"

	"limitrophe/api"
	"limitrophe/sheet"
)

// arguments are those of all functions.
type arguments struct {
	s           sheet.Set
	shifts      []sheet.Shift
	round       sheet.Round
	a, b        int
	play        api.Ratio
	edge, other []sheet.Mark
	most        int // the play of the edges
	list        []sheet.Pair
	levels      [][]int
}

// answers has what all functions answer.
type answers struct {
	tied   []int
	plays  [3]api.Ratio // of Play, Needs and Proves
	shifts []sheet.Shift
	worst  sheet.Round
	x, y   sheet.Bounds
	match  []sheet.Pair
	is     bool
	levels [][]int
	bars   int
	errors [functions]api.Errno // of all functions
}

// The functions, in the order in which the chapter declares them.
const (
	ofCheck = iota
	ofTied
	ofPlay
	ofShifts
	ofNeeds
	ofWorst
	ofProves
	ofBetween
	ofMatch
	ofMatches
	ofLevels
	ofBars
	functions
)

// ask calls all functions.
func ask(x arguments) answers {
	var a answers
	a.errors[ofCheck] = sheet.Check(x.s)
	a.tied, a.errors[ofTied] = sheet.Tied(x.s)
	a.plays[0], a.errors[ofPlay] = sheet.Play(x.s)
	a.shifts, a.errors[ofShifts] = sheet.Shifts(x.s)
	a.plays[1], a.errors[ofNeeds] = sheet.Needs(x.s, x.shifts)
	a.worst, a.errors[ofWorst] = sheet.Worst(x.s)
	a.plays[2], a.errors[ofProves] = sheet.Proves(x.s, x.round)
	a.x, a.y, a.errors[ofBetween] = sheet.Between(x.s, x.a, x.b, x.play)
	a.match, a.errors[ofMatch] = sheet.Match(x.edge, x.other, x.most)
	a.is, a.errors[ofMatches] = sheet.Matches(x.edge, x.other, x.most, x.list)
	a.levels, a.errors[ofLevels] = sheet.Levels(x.edge, x.other, x.most)
	a.bars, a.errors[ofBars] = sheet.Bars(x.edge, x.other, x.most, x.levels)
	return a
}

// besidesErrors reports whether some function answers something together with an error.
func (a answers) besidesErrors() bool {
	something := [functions]bool{
		ofTied:    len(a.tied) > 0,
		ofPlay:    a.plays[0] != api.Ratio{},
		ofShifts:  len(a.shifts) > 0,
		ofNeeds:   a.plays[1] != api.Ratio{},
		ofWorst:   a.worst.North || len(a.worst.Legs) > 0,
		ofProves:  a.plays[2] != api.Ratio{},
		ofBetween: a.x != sheet.Bounds{} || a.y != sheet.Bounds{},
		ofMatch:   len(a.match) > 0,
		ofMatches: a.is,
		ofLevels:  len(a.levels) > 0,
		ofBars:    a.bars != 0,
	}
	for number, e := range a.errors {
		if e != api.OK && something[number] {
			return true
		}
	}
	return false
}

// copied returns arguments that share no memory with other ones.
func (x arguments) copied() arguments {
	x.s, x.shifts, x.round.Legs = copySet(x.s), slices.Clone(x.shifts), slices.Clone(x.round.Legs)
	x.edge, x.other, x.list, x.levels = slices.Clone(x.edge), slices.Clone(x.other), slices.Clone(x.list), copyRows(x.levels)
	return x
}

// wild returns a number that is often not allowed.
func wild(r *rand.Rand) int {
	numbers := []int{0, 0, 0, 1, 1, 2, 2, 3, 4, 5, -1, -2, 11, 12, 13, 20, 21, 29, 30, 31, 1000, 1001, 1000000, 1000001, -1000000,
		-1000001, 1000000000, 1000000001, -1000000001, math.MaxInt, math.MinInt, math.MaxInt - 1, math.MinInt + 1, 1 << 62, 1 << 32}
	return numbers[r.Intn(len(numbers))]
}

// tameArguments returns arguments of which all are allowed, or nearly so.
func tameArguments(r *rand.Rand) arguments {
	x := arguments{s: anySet(r, 12, []int{8, 8, 8, 40}[r.Intn(4)], anySize(r))}
	x.shifts, _ = sheet.Shifts(x.s)
	x.round, _ = sheet.Worst(x.s)
	if r.Intn(2) == 0 {
		x.round, _ = anyRound(r, x.s)
	}
	x.a, x.b = r.Intn(x.s.Sheets), r.Intn(x.s.Sheets)
	x.play, _ = sheet.Play(x.s)
	if r.Intn(3) == 0 {
		x.play = ratio(r.Intn(1000), 1+r.Intn(1000))
	}
	x.edge, x.other, x.most = anyEdges(r, 4+26*r.Intn(2)*r.Intn(2))
	x.list, _ = sheet.Match(x.edge, x.other, x.most)
	if r.Intn(2) == 0 {
		x.list = anyPairs(r, x.edge, x.other, x.most)
	}
	x.levels = anyLevels(r, x.edge, x.other, x.most)
	return x
}

// wildArguments returns arguments of which one is often not allowed.
func wildArguments(r *rand.Rand) arguments {
	x := tameArguments(r)
	if r.Intn(2) == 0 {
		wildSet(r, &x)
	} else {
		wildEdges(r, &x)
	}
	return x
}

// wildSet changes something of a set, or of what is asked about it.
func wildSet(r *rand.Rand, x *arguments) {
	switch kind := r.Intn(12); {
	case kind == 0:
		x.s.Sheets = wild(r)
	case kind == 1:
		x.s.Joints = append(x.s.Joints, make([]sheet.Joint, r.Intn(41))...)
	case kind <= 3 && len(x.s.Joints) > 0:
		j := &x.s.Joints[r.Intn(len(x.s.Joints))]
		*[]*int{&j.A, &j.B, &j.X, &j.Y}[r.Intn(4)] = wild(r)
	case kind == 4:
		x.shifts = append(x.shifts, make([]sheet.Shift, r.Intn(3))...)
	case kind <= 6:
		shift := &x.shifts[r.Intn(len(x.shifts))]
		*[]*int{&shift.X.N, &shift.X.D, &shift.Y.N, &shift.Y.D}[r.Intn(4)] = wild(r)
	case kind == 7:
		x.round.Legs = append(x.round.Legs, make([]sheet.Leg, r.Intn(61))...)
	case kind == 8 && len(x.round.Legs) > 0:
		x.round.Legs[r.Intn(len(x.round.Legs))] = sheet.Leg{Joint: wild(r), Back: r.Intn(2) == 0}
	case kind == 9:
		*[]*int{&x.a, &x.b}[r.Intn(2)] = wild(r)
	case kind <= 11:
		*[]*int{&x.play.N, &x.play.D}[r.Intn(2)] = wild(r)
	}
}

// wildEdges changes something of two edges, or of what is asked about them.
func wildEdges(r *rand.Rand, x *arguments) {
	edge := []*[]sheet.Mark{&x.edge, &x.other}[r.Intn(2)]
	switch kind := r.Intn(9); {
	case kind == 0:
		*edge = append(*edge, make([]sheet.Mark, r.Intn(32))...)
	case kind <= 2 && len(*edge) > 0:
		m := &(*edge)[r.Intn(len(*edge))]
		*[]*int{&m.At, &m.Kind}[r.Intn(2)] = wild(r)
	case kind == 3:
		x.most = wild(r)
	case kind == 4:
		x.list = append(x.list, sheet.Pair{A: wild(r), B: wild(r)})
	case kind == 5:
		slices.Reverse(x.list)
	case kind == 6 && len(x.levels) > 0:
		row := r.Intn(len(x.levels))
		x.levels[row] = append(x.levels[row], make([]int, r.Intn(2))...)
	case kind == 7 && len(x.levels) > 0:
		x.levels = x.levels[r.Intn(2):]
	case kind == 8 && len(x.levels) > 0 && len(x.levels[0]) > 0:
		x.levels[r.Intn(len(x.levels))][r.Intn(len(x.levels[0]))] = wild(r)
	}
}

// familyOf returns the function whose errors another one has first.
func familyOf(number int) int {
	if number < ofMatch {
		return ofCheck
	}
	return ofMatch
}

// Every function ends for all arguments, and changes none of them; and nothing comes with an error (P0.1).
func TestAnyArguments(t *testing.T) {
	r := rand.New(rand.NewSource(31))
	ask(arguments{})
	var told [functions][14]int // how often a function had an error
	for range 2500 {
		x := wildArguments(r)
		before := x.copied()
		a := ask(x)
		for number, e := range a.errors {
			told[number][e]++
			if first := a.errors[familyOf(number)]; first != api.OK && e != first {
				t.Error("another error than that of a set, or of edges:", number, x, a)
			}
		}
		if a.besidesErrors() {
			t.Error("something comes with an error:", x, a)
		}
		if !reflect.DeepEqual(x, before) {
			t.Error("arguments were changed:", x, before)
		}
	}
	for number, counts := range told {
		errors := errorsOf(number)
		for e, many := range counts {
			if is := slices.Contains(errors, api.Errno(e)); is && many < 15 || !is && many > 0 {
				t.Error("an error came too seldom, or is none of the function:", number, e, many)
			}
		}
	}
}

// errorsOf returns the errors of a function, as the chapter's table has them, and OK.
func errorsOf(number int) []api.Errno {
	ofSets, ofEdges := []api.Errno{api.OK, api.ErrCount, api.ErrArg, api.ErrValue}, []api.Errno{api.OK, api.ErrCount, api.ErrValue, api.ErrOrder}
	switch number {
	case ofWorst:
		return append(ofSets, api.ErrNone)
	case ofProves:
		return append(ofSets, api.ErrFalse)
	case ofBetween:
		return append(ofSets, api.ErrClash, api.ErrNone)
	case ofMatch, ofLevels:
		return ofEdges
	case ofMatches:
		return append(ofEdges, api.ErrArg)
	case ofBars:
		return append(ofEdges, api.ErrArg, api.ErrFalse)
	}
	return ofSets
}

// Long lists are no exception.
func TestLongArguments(t *testing.T) {
	const long = 1 << 18
	expect(t, "many joints", sheet.Check(set(2, many(long)...)), api.ErrCount)
	_, e := sheet.Needs(three(), make([]sheet.Shift, long))
	expect(t, "many shifts", e, api.ErrArg)
	_, e = sheet.Proves(three(), round(make([]int, long)...))
	expect(t, "many legs", e, api.ErrCount)
	_, e = sheet.Match(make([]sheet.Mark, long), edge(), 0)
	expect(t, "many marks", e, api.ErrCount)
	_, e = sheet.Levels(edge(), make([]sheet.Mark, long), 0)
	expect(t, "many marks of the other edge", e, api.ErrCount)
	is, e := sheet.Matches(edge(), facing(), 11, make([]sheet.Pair, long))
	if is || e != api.OK {
		t.Error("many pairs:", is, e)
	}
	_, e = sheet.Bars(edge(), facing(), 11, rows(3, long, 0))
	expect(t, "long rows", e, api.ErrArg)
	_, e = sheet.Bars(edge(), facing(), 11, make([][]int, long))
	expect(t, "many rows", e, api.ErrArg)
}

// No result shares memory with an argument or another result, nor with one of another call (R4).
func TestMemory(t *testing.T) {
	r := rand.New(rand.NewSource(32))
	for range 300 {
		x := tameArguments(r)
		before := x.copied()
		a, again := ask(x), ask(x)
		if !reflect.DeepEqual(a, again) {
			t.Error("two answers differ:", x, a, again)
		}
		expectApart(t, append(slices.Clone(a.levels), a.tied))
		fill(a.shifts, sheet.Shift{X: ratio(-7, 0)})
		fill(a.worst.Legs, sheet.Leg{Joint: -7})
		fill(a.match, sheet.Pair{A: -7, B: -7})
		if !reflect.DeepEqual(x, before) {
			t.Error("arguments were changed:", x, before)
		}
		if third := ask(x); !reflect.DeepEqual(third, again) {
			t.Error("an answer is another one than before:", x, third, again)
		}
	}
}

// fill overwrites a list, up to where its memory ends.
func fill[T any](list []T, with T) {
	list = list[:cap(list)]
	for i := range list {
		list[i] = with
	}
}

// expectApart overwrites lists, up to where their memory ends, and reports those that were changed by that.
func expectApart(t *testing.T, lists [][]int) {
	t.Helper()
	for i, l := range lists {
		fill(l, -7-i)
	}
	for i, l := range lists {
		if slices.ContainsFunc(l, func(n int) bool { return n != -7-i }) {
			t.Error("lists share memory:", i, l)
		}
	}
}

// A list that is nil is the same as one that is empty (R3).
func TestNilIsEmpty(t *testing.T) {
	for _, sheets := range []int{0, 1, 2, 12} {
		for _, most := range []int{-1, 0, 7} {
			null := arguments{s: set(sheets), most: most, play: whole(1)}
			empty := null
			empty.s.Joints, empty.shifts, empty.round.Legs = []sheet.Joint{}, []sheet.Shift{}, []sheet.Leg{}
			empty.edge, empty.other, empty.list, empty.levels = marks(), []sheet.Mark{}, []sheet.Pair{}, [][]int{}
			if a, b := ask(null), ask(empty); !reflect.DeepEqual(a, b) {
				t.Error(sheets, most, a, b)
			}
			null.edge, empty.edge = edge(), edge()
			null.levels, empty.levels = make([][]int, 3), slices.Repeat([][]int{{}}, 3)
			if a, b := ask(null), ask(empty); !reflect.DeepEqual(a, b) {
				t.Error("rows:", sheets, most, a, b)
			}
		}
	}
}
