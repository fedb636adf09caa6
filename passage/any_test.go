package passage_test

import (
	"math"
	"math/rand"
	"reflect"
	"slices"
	"testing"

	"limitrophe/api"
	"limitrophe/passage"
)

// arguments are those of all functions.
type arguments struct {
	n                         passage.Net
	h                         passage.Herd
	route                     []int
	to                        int
	calendar                  [][]int
	l                         []passage.Herd
	tos                       []int
	from, goals, heads, posts []int
}

// answers has what all functions answer.
type answers struct {
	behind   passage.Herd
	lists    [6][]int // of Earliest, Route, Barred, Drive, Cut and Narrow
	calendar [][]int
	counts   [4]int               // of Proves, Drive, Brings and Bars
	errors   [functions]api.Errno // of all functions
}

// The functions, in the order in which the chapter declares them.
const (
	ofCheck = iota
	ofFollow
	ofEarliest
	ofRoute
	ofCalendar
	ofProves
	ofBarred
	ofDrive
	ofBrings
	ofCut
	ofBars
	ofNarrow
	functions
)

// ask calls all functions.
func ask(x arguments) answers {
	var a answers
	a.errors[ofCheck] = passage.Check(x.n)
	a.behind, a.errors[ofFollow] = passage.Follow(x.n, x.h, x.route)
	a.lists[0], a.errors[ofEarliest] = passage.Earliest(x.n, x.h)
	a.lists[1], a.errors[ofRoute] = passage.Route(x.n, x.h, x.to)
	a.calendar, a.errors[ofCalendar] = passage.Calendar(x.n, x.h)
	a.counts[0], a.errors[ofProves] = passage.Proves(x.n, x.h, x.calendar, x.to)
	a.lists[2], a.errors[ofBarred] = passage.Barred(x.n, x.l, x.tos)
	a.lists[3], a.counts[1], a.errors[ofDrive] = passage.Drive(x.n, x.from, x.goals)
	a.counts[2], a.errors[ofBrings] = passage.Brings(x.n, x.from, x.goals, x.heads)
	a.lists[4], a.errors[ofCut] = passage.Cut(x.n, x.from, x.goals)
	a.counts[3], a.errors[ofBars] = passage.Bars(x.n, x.from, x.goals, x.posts)
	a.lists[5], a.errors[ofNarrow] = passage.Narrow(x.n, x.from, x.goals)
	return a
}

// besidesErrors reports whether some function answers something together with an error.
func (a answers) besidesErrors() bool {
	something := [functions]bool{
		ofFollow:   a.behind != passage.Herd{},
		ofEarliest: len(a.lists[0]) > 0,
		ofRoute:    len(a.lists[1]) > 0,
		ofCalendar: len(a.calendar) > 0,
		ofProves:   a.counts[0] != 0,
		ofBarred:   len(a.lists[2]) > 0,
		ofDrive:    len(a.lists[3]) > 0 || a.counts[1] != 0,
		ofBrings:   a.counts[2] != 0,
		ofCut:      len(a.lists[4]) > 0,
		ofBars:     a.counts[3] != 0,
		ofNarrow:   len(a.lists[5]) > 0,
	}
	for number, e := range a.errors {
		if e != api.OK && something[number] {
			return true
		}
	}
	return false
}

// copied returns arguments that share no memory with other ones.
func (x arguments) copied() arguments {
	x.n, x.calendar, x.l = copyNet(x.n), copyRows(x.calendar), slices.Clone(x.l)
	for _, l := range []*[]int{&x.route, &x.tos, &x.from, &x.goals, &x.heads, &x.posts} {
		*l = slices.Clone(*l)
	}
	return x
}

// wild returns a number that is often not allowed.
func wild(r *rand.Rand) int {
	numbers := list(0, 0, 0, 1, 1, 2, 2, 3, 4, 5, -1, -2, 9, 10, 15, 16, 24, 1000, 1001, 1002,
		math.MaxInt, math.MinInt, math.MaxInt-1, math.MinInt+1, 1<<62, 1<<32)
	return numbers[r.Intn(len(numbers))]
}

// wildList returns a list of such numbers.
func wildList(r *rand.Rand, most int) []int {
	var l []int
	for range r.Intn(most + 1) {
		l = append(l, wild(r))
	}
	return l
}

// wildWay returns a way that is often not allowed, and wildHerd such a herd.
func wildWay(r *rand.Rand, w passage.Way) passage.Way {
	parts := []*int{&w.From, &w.To, &w.Days, &w.Heads, &w.Needs, &w.Gives, &w.Open.Lo, &w.Open.Hi}
	*parts[r.Intn(len(parts))] = wild(r)
	return w
}
func wildHerd(r *rand.Rand, h passage.Herd) passage.Herd {
	parts := []*int{&h.Post, &h.Day, &h.Papers}
	*parts[r.Intn(len(parts))] = wild(r)
	return h
}

// tameArguments returns arguments of which all are allowed, or nearly so.
func tameArguments(r *rand.Rand) arguments {
	s := anySeason(r)
	x := arguments{n: anyNet(r, s, 10, 24, list(1, 5, 1000)[r.Intn(3)])}
	if x.n.Posts < 2 || r.Intn(3) == 0 {
		x.n, s = pastures(), season{0, 100, 10}
	}
	x.h = anyHerd(r, x.n, s)
	x.to = r.Intn(x.n.Posts)
	x.route, _ = passage.Route(x.n, x.h, x.to)
	x.calendar, _ = passage.Calendar(x.n, x.h)
	for range r.Intn(13) {
		x.l, x.tos = append(x.l, anyHerd(r, x.n, s)), append(x.tos, r.Intn(x.n.Posts))
	}
	x.from, x.goals = anyPastures(r, x.n)
	x.heads, _, _ = passage.Drive(x.n, x.from, x.goals)
	x.posts, _ = passage.Cut(x.n, x.from, x.goals)
	return x
}

// wildArguments returns arguments that are often not allowed.
func wildArguments(r *rand.Rand) arguments {
	x := tameArguments(r)
	lists := []*[]int{&x.route, &x.tos, &x.from, &x.goals, &x.heads, &x.posts}
	l := lists[r.Intn(len(lists))]
	switch kind := r.Intn(15); {
	case kind == 0:
		x.n.Posts = wild(r)
	case kind == 1:
		x.n.Ways = append(x.n.Ways, make([]passage.Way, r.Intn(25))...)
	case kind == 2 && len(x.n.Ways) > 0:
		number := r.Intn(len(x.n.Ways))
		x.n.Ways[number] = wildWay(r, x.n.Ways[number])
	case kind == 3:
		x.h = wildHerd(r, x.h)
	case kind == 4:
		x.to = wild(r)
	case kind == 5:
		x.calendar[r.Intn(len(x.calendar))][r.Intn(16)] = wild(r)
	case kind == 6:
		post := r.Intn(len(x.calendar))
		x.calendar[post] = append(x.calendar[post], wildList(r, 2)...)
	case kind == 7:
		x.calendar = x.calendar[r.Intn(2):]
	case kind == 8 && len(x.l) > 0:
		number := r.Intn(len(x.l))
		x.l[number] = wildHerd(r, x.l[number])
	case kind == 9:
		x.l, x.tos = append(x.l, x.l...), append(x.tos, x.tos...)
	case kind == 10:
		*l = append(*l, wildList(r, 3)...)
	case kind == 11 && len(*l) > 0:
		(*l)[r.Intn(len(*l))] = wild(r)
	case kind == 12:
		*l = nil
	case kind == 13:
		*l = append(*l, *l...)
	case kind == 14 && len(*l) > 1:
		i := 1 + r.Intn(len(*l)-1)
		(*l)[i-1], (*l)[i] = (*l)[i], (*l)[i-1]
	}
	return x
}

// familyOf returns the number of a function whose errors another one has first.
func familyOf(number int) []int {
	switch {
	case number == ofCheck:
		return nil
	case number <= ofProves:
		return list(ofCheck, ofEarliest)
	case number == ofBarred:
		return list(ofCheck)
	}
	return list(ofCheck, ofDrive)
}

// Every function ends for all arguments, and changes none of them; and nothing comes with an error (P0.1).
func TestAnyArguments(t *testing.T) {
	r := rand.New(rand.NewSource(1))
	ask(arguments{})
	var told [functions][14]int // how often a function had an error
	for range 30000 {
		x := wildArguments(r)
		before := x.copied()
		a := ask(x)
		for number, e := range a.errors {
			told[number][e]++
			for _, of := range familyOf(number) {
				if a.errors[of] != api.OK && e != a.errors[of] {
					t.Error("another error than that of a net, a herd or pastures:", number, x, a)
				}
			}
		}
		if a.besidesErrors() {
			t.Error("something comes with an error:", x, a)
		}
		if !reflect.DeepEqual(x, before) {
			t.Error("arguments were changed:", x, before)
		}
	}
	for number, counts := range told {
		errors := errorsOf(number)
		for e, many := range counts {
			if is := slices.Contains(errors, api.Errno(e)); is && many < 50 || !is && many > 0 {
				t.Error("an error came too seldom, or is none of the function:", number, e, many)
			}
		}
	}
}

// errorsOf returns the errors of a function, as the chapter's table has them, and OK.
func errorsOf(number int) []api.Errno {
	errors := []api.Errno{api.OK, api.ErrCount, api.ErrArg, api.ErrValue}
	switch number {
	case ofFollow, ofProves:
		return append(errors, api.ErrFalse)
	case ofRoute:
		return append(errors, api.ErrNone)
	case ofDrive, ofCut, ofNarrow:
		return append(errors, api.ErrOrder, api.ErrTwice)
	case ofBrings, ofBars:
		return append(errors, api.ErrOrder, api.ErrTwice, api.ErrFalse)
	}
	return errors
}

// Long lists are no exception.
func TestLongArguments(t *testing.T) {
	long := make([]int, 1<<18)
	round := net(2, path(0, 1, 0), path(1, 0, 0))
	route := slices.Repeat(list(0, 1), 1<<18)
	if h, e := passage.Follow(round, herd(0, 7, 3), route); h != herd(0, 7, 3) || e != api.OK {
		t.Error("a long route:", h, e)
	}
	_, e := passage.Follow(round, herd(0, 7, 3), append(route, 1))
	expect(t, "a long list that is no route", e, api.ErrFalse)
	expect(t, "many ways", passage.Check(net(2, make([]passage.Way, 1<<18)...)), api.ErrCount)
	_, e = passage.Proves(round, herd(0, 0, 0), [][]int{long, long}, 0)
	expect(t, "long rows", e, api.ErrCount)
	_, e = passage.Proves(round, herd(0, 0, 0), make([][]int, 1<<18), 0)
	expect(t, "many rows", e, api.ErrCount)
	_, e = passage.Barred(round, make([]passage.Herd, 1<<18), long)
	expect(t, "many herds", e, api.ErrCount)
	_, _, e = passage.Drive(round, long, list(1))
	expect(t, "many sources", e, api.ErrOrder)
	_, e = passage.Cut(round, list(1), long)
	expect(t, "many goals", e, api.ErrOrder)
	_, e = passage.Brings(round, list(0), list(1), long)
	expect(t, "many numbers of heads", e, api.ErrCount)
	_, e = passage.Bars(round, list(0), list(1), long)
	expect(t, "many posts of a cut", e, api.ErrOrder)
}

// No result shares memory with an argument or another result, nor with one of another call (R4).
func TestMemory(t *testing.T) {
	r := rand.New(rand.NewSource(2))
	for range 500 {
		x := tameArguments(r)
		before := x.copied()
		a, again := ask(x), ask(x)
		if !reflect.DeepEqual(a, again) {
			t.Error("two answers differ:", x, a, again)
		}
		expectApart(t, append(a.lists[:], a.calendar...))
		if !reflect.DeepEqual(x, before) {
			t.Error("arguments were changed:", x, before)
		}
		if third := ask(x); !reflect.DeepEqual(third, again) {
			t.Error("an answer is another one than before:", x, third, again)
		}
	}
	from := list(0)
	cut, _ := passage.Cut(net(2), from, list(1))
	cut[0] = 7
	if from[0] != 0 {
		t.Error("a cut of the sources alone shares memory")
	}
}

// expectApart overwrites lists, up to where their memory ends, and reports those that were changed by that.
func expectApart(t *testing.T, lists [][]int) {
	t.Helper()
	for i, l := range lists {
		whole := l[:cap(l)]
		for k := range whole {
			whole[k] = -7 - i
		}
	}
	for i, l := range lists {
		if slices.ContainsFunc(l, func(n int) bool { return n != -7-i }) {
			t.Error("lists share memory:", i, l)
		}
	}
}

// A list that is nil is the same as one that is empty (R3).
func TestNilIsEmpty(t *testing.T) {
	for _, n := range []passage.Net{{}, net(1), net(2), pastures()} {
		null := arguments{n: n}
		empty := arguments{n: n, route: list(), calendar: [][]int{}, l: []passage.Herd{}, tos: list(), from: list(), goals: list(), heads: list(), posts: list()}
		if len(n.Ways) == 0 {
			empty.n.Ways = []passage.Way{}
		}
		driven, undriven := null, empty
		driven.from, driven.goals, undriven.from, undriven.goals = list(0), list(1), list(0), list(1)
		for _, x := range [][2]arguments{{null, empty}, {driven, undriven}} {
			if a, b := ask(x[0]), ask(x[1]); !reflect.DeepEqual(a, b) {
				t.Error(n, a, b)
			}
		}
		null.calendar, empty.calendar = make([][]int, n.Posts), slices.Repeat([][]int{{}}, n.Posts)
		if a, b := ask(null), ask(empty); !reflect.DeepEqual(a, b) {
			t.Error("rows:", n, a, b)
		}
	}
}
