package enclave_test

import (
	"math"
	"math/rand"
	"reflect"
	"slices"
	"testing"

	"limitrophe/api"
	"limitrophe/enclave"
)

// arguments are those of all functions.
type arguments struct {
	m               enclave.Map
	region, without int
	way             []int
	l               enclave.Land
	owners          []int
	walks           []enclave.Walk
}

// answers has what all functions answer.
type answers struct {
	lists  [6][]int       // of Regions, Around, Depths, Out, Clear and Divide
	maps   [2]enclave.Map // of Give and Clear
	leads  bool
	counts [3]int // of Cost, Divide and Proves
	walks  []enclave.Walk
	errors [functions]api.Errno // of all functions
}

// The functions, in the order in which the chapter declares them.
const (
	ofCheck = iota
	ofRegions
	ofAround
	ofDepths
	ofOut
	ofLeads
	ofGive
	ofClear
	ofCheckLand
	ofCost
	ofDivide
	ofWalks
	ofProves
	functions
)

// ask calls all functions.
func ask(x arguments) answers {
	var a answers
	a.errors[ofCheck] = enclave.Check(x.m)
	a.lists[0], a.errors[ofRegions] = enclave.Regions(x.m)
	a.lists[1], a.errors[ofAround] = enclave.Around(x.m)
	a.lists[2], a.errors[ofDepths] = enclave.Depths(x.m)
	a.lists[3], a.errors[ofOut] = enclave.Out(x.m, x.region, x.without)
	a.leads, a.errors[ofLeads] = enclave.Leads(x.m, x.region, x.without, x.way)
	a.maps[0], a.errors[ofGive] = enclave.Give(x.m, x.region)
	a.maps[1], a.lists[4], a.errors[ofClear] = enclave.Clear(x.m)
	a.errors[ofCheckLand] = enclave.CheckLand(x.l)
	a.counts[0], a.errors[ofCost] = enclave.Cost(x.l, x.owners)
	a.lists[5], a.counts[1], a.errors[ofDivide] = enclave.Divide(x.l)
	a.walks, a.errors[ofWalks] = enclave.Walks(x.l)
	a.counts[2], a.errors[ofProves] = enclave.Proves(x.l, x.walks)
	return a
}

// besidesErrors reports whether some function answers something together with an error.
func (a answers) besidesErrors() bool {
	isSome := func(m enclave.Map) bool { return m.Wide != 0 || len(m.Owners) > 0 }
	something := [functions]bool{
		ofRegions: len(a.lists[0]) > 0,
		ofAround:  len(a.lists[1]) > 0,
		ofDepths:  len(a.lists[2]) > 0,
		ofOut:     len(a.lists[3]) > 0,
		ofLeads:   a.leads,
		ofGive:    isSome(a.maps[0]),
		ofClear:   isSome(a.maps[1]) || len(a.lists[4]) > 0,
		ofCost:    a.counts[0] != 0,
		ofDivide:  len(a.lists[5]) > 0 || a.counts[1] != 0,
		ofWalks:   len(a.walks) > 0,
		ofProves:  a.counts[2] != 0,
	}
	for number, e := range a.errors {
		if e != api.OK && something[number] {
			return true
		}
	}
	return false
}

// copied returns arguments that share no memory with other ones.
func (x arguments) copied() arguments {
	x.m, x.l, x.walks = copyMap(x.m), copyLand(x.l), copyWalks(x.walks)
	x.way, x.owners = slices.Clone(x.way), slices.Clone(x.owners)
	return x
}

// wild returns a number that is often not allowed.
func wild(r *rand.Rand) int {
	numbers := list(0, 0, 0, 1, 1, 2, 2, 3, 4, 5, -1, -2, 9, 10, 99, 100, 101, 1000, 1001,
		math.MaxInt, math.MinInt, math.MaxInt-1, math.MinInt+1, 1<<62, 1<<32)
	return numbers[r.Intn(len(numbers))]
}

// wildList returns a list of such numbers, and wildWalks walks of them.
func wildList(r *rand.Rand, most int) []int {
	var l []int
	for range r.Intn(most + 1) {
		l = append(l, wild(r))
	}
	return l
}
func wildWalks(r *rand.Rand, most int) []enclave.Walk {
	var l []enclave.Walk
	for range r.Intn(most + 1) {
		l = append(l, enclave.Walk{Plots: wildList(r, 5), Many: wild(r)})
	}
	return l
}

// tameArguments returns arguments of which all are allowed, or nearly so.
func tameArguments(r *rand.Rand) arguments {
	x := arguments{m: anyMap(r, 30), l: anyLand(r, 30, 30, list(1, 5, 1000)[r.Intn(3)])}
	if r.Intn(3) == 0 {
		x.m = plan([]string{ringed, gapped}[r.Intn(2)])
	}
	x.region, x.without = r.Intn(3), r.Intn(3)
	x.way, _ = enclave.Out(x.m, x.region, x.without)
	x.owners, _, _ = enclave.Divide(x.l)
	x.walks, _ = enclave.Walks(x.l)
	return x
}

// wildArguments returns arguments that are often not allowed.
func wildArguments(r *rand.Rand) arguments {
	x := tameArguments(r)
	switch r.Intn(16) {
	case 0:
		x.m = enclave.Map{Wide: wild(r), Owners: wildList(r, 6)}
	case 1:
		x.m.Wide = wild(r)
	case 2:
		x.m.Owners[r.Intn(len(x.m.Owners))] = wild(r)
	case 3:
		x.region = wild(r)
	case 4:
		x.without = wild(r)
	case 5:
		x.way = append(x.way, wildList(r, 3)...)
	case 6:
		x.l = enclave.Land{Wide: wild(r), Owners: wildList(r, 6), East: wildList(r, 6), South: wildList(r, 6)}
	case 7:
		x.l.Wide = wild(r)
	case 8:
		x.l.Owners[r.Intn(len(x.l.Owners))] = wild(r)
	case 9:
		x.l.East[r.Intn(len(x.l.East))] = wild(r)
	case 10:
		x.l.South[r.Intn(len(x.l.South))] = wild(r)
	case 11:
		x.l.Owners = slices.Repeat(list(r.Intn(3)-1), len(x.l.Owners))
	case 12:
		x.owners = append(x.owners, wildList(r, 1)...)
	case 13:
		x.owners[r.Intn(len(x.owners))] = wild(r)
	case 14:
		x.walks = append(x.walks, wildWalks(r, 2)...)
	case 15:
		if len(x.walks) > 0 {
			w := &x.walks[r.Intn(len(x.walks))]
			w.Plots = slices.Repeat(w.Plots, 1+r.Intn(100))
			w.Many = wild(r)
		}
	}
	return x
}

// Every function ends for all arguments, and changes none of them; and nothing comes with an error (P0.1).
func TestAnyArguments(t *testing.T) {
	r := rand.New(rand.NewSource(1))
	ask(arguments{})
	var told [functions][14]int // how often a function had an error
	for range 30000 {
		x := wildArguments(r)
		before := x.copied()
		a := ask(x)
		for number, e := range a.errors {
			told[number][e]++
			of := ofCheck
			if number >= ofCheckLand {
				of = ofCheckLand
			}
			if a.errors[of] != api.OK && e != a.errors[of] {
				t.Error("another error than that of a map or land:", number, x, a)
			}
		}
		if a.errors[ofLeads] == api.OK && a.errors[ofOut] != api.OK && a.errors[ofOut] != api.ErrNone {
			t.Error("another error than that of regions:", x, a)
		}
		if a.besidesErrors() {
			t.Error("something comes with an error:", x, a)
		}
		if !reflect.DeepEqual(x, before) {
			t.Error("arguments were changed:", x, before)
		}
	}
	for number, counts := range told {
		errors := errorsOf(number)
		for e, many := range counts {
			if is := slices.Contains(errors, api.Errno(e)); is && many < 50 || !is && many > 0 {
				t.Error("an error came too seldom, or is none of the function:", number, e, many)
			}
		}
	}
}

// errorsOf returns the errors of a function, as the chapter's table has them, and OK.
func errorsOf(number int) []api.Errno {
	errors := []api.Errno{api.OK, api.ErrCount, api.ErrValue}
	if number >= ofCheckLand {
		errors = append(errors, api.ErrNone)
	}
	switch number {
	case ofOut:
		return append(errors, api.ErrArg, api.ErrNone)
	case ofLeads:
		return append(errors, api.ErrArg)
	case ofGive:
		return append(errors, api.ErrArg, api.ErrState)
	case ofCost, ofProves:
		return append(errors, api.ErrArg, api.ErrFalse)
	}
	return errors
}

// Long lists are no exception.
func TestLongArguments(t *testing.T) {
	long := make([]int, 1<<18)
	way := slices.Concat(list(12), slices.Repeat(list(7, 12), 1<<18), list(7, 2))
	if is, e := enclave.Leads(plan(gapped), 3, 1, way); !is || e != api.OK {
		t.Error("a long way:", is, e)
	}
	if is, e := enclave.Leads(plan(gapped), 3, 1, append(way, 12)); is || e != api.OK {
		t.Error("a long list that is no way:", is, e)
	}
	expect(t, "many plots", enclave.Check(enclave.Map{Wide: 1 << 9, Owners: long}), api.ErrCount)
	expect(t, "many plots of a land", enclave.CheckLand(enclave.Land{Wide: 1, Owners: long, East: long, South: long}), api.ErrCount)
	l := square()
	l.East, l.South = long, long
	expect(t, "many numbers of houses", enclave.CheckLand(l), api.ErrCount)
	_, e := enclave.Cost(square(), long)
	expect(t, "many owners", e, api.ErrArg)
	_, e = enclave.Proves(square(), []enclave.Walk{walk(1, long...)})
	expect(t, "a long walk", e, api.ErrCount)
	_, e = enclave.Proves(square(), make([]enclave.Walk, 1<<18))
	expect(t, "many walks", e, api.ErrCount)
}

// No result shares memory with an argument or another result, nor with one of another call (R4).
func TestMemory(t *testing.T) {
	r := rand.New(rand.NewSource(2))
	for range 500 {
		x := tameArguments(r)
		x.m = plan(ringed)
		x.region, x.without = 1, 2
		before := x.copied()
		a, again := ask(x), ask(x)
		if !reflect.DeepEqual(a, again) {
			t.Error("two answers differ:", x, a, again)
		}
		lists := append(a.lists[:], a.maps[0].Owners, a.maps[1].Owners)
		for _, w := range a.walks {
			lists = append(lists, w.Plots)
		}
		expectApart(t, lists)
		if !reflect.DeepEqual(x, before) {
			t.Error("arguments were changed:", x, before)
		}
		if third := ask(x); !reflect.DeepEqual(third, again) {
			t.Error("an answer is another one than before:", x, third, again)
		}
	}
	flat := plan("000 000")
	m, plots, e := enclave.Clear(flat)
	if !sameMap(m, flat) || len(plots) > 0 || e != api.OK {
		t.Error("a map without enclaves:", m, plots, e)
	}
	m.Owners[0] = 7
	if flat.Owners[0] != 0 {
		t.Error("a map that is not changed shares memory")
	}
}

// expectApart overwrites lists, up to where their memory ends, and reports those that were changed by that.
func expectApart(t *testing.T, lists [][]int) {
	t.Helper()
	for i, l := range lists {
		whole := l[:cap(l)]
		for k := range whole {
			whole[k] = -7 - i
		}
	}
	for i, l := range lists {
		if slices.ContainsFunc(l, func(n int) bool { return n != -7-i }) {
			t.Error("lists share memory:", i, l)
		}
	}
}

// A list that is nil is the same as one that is empty (R3).
func TestNilIsEmpty(t *testing.T) {
	ring, l := plan(ringed), square()
	for _, x := range [][2]arguments{
		{{}, {m: enclave.Map{Owners: list()}, way: list(), l: enclave.Land{Owners: list(), East: list(), South: list()}, owners: list(), walks: []enclave.Walk{}}},
		{{m: ring, without: 1, l: l}, {m: ring, without: 1, way: list(), l: l, owners: list(), walks: []enclave.Walk{}}},
		{{m: ring, l: l, walks: []enclave.Walk{{Many: 1}}}, {m: ring, l: l, walks: []enclave.Walk{{Plots: list(), Many: 1}}}},
		{{m: enclave.Map{Wide: 1}}, {m: enclave.Map{Wide: 1, Owners: list()}}},
	} {
		if a, b := ask(x[0]), ask(x[1]); !reflect.DeepEqual(a, b) {
			t.Error(x, a, b)
		}
	}
}
