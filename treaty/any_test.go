package treaty_test

import (
	"math"
	"math/rand"
	"reflect"
	"slices"
	"testing"

	"limitrophe/api"
	"limitrophe/treaty"
)

// wild returns a number that is often not allowed.
func wild(r *rand.Rand) int {
	numbers := list(0, 0, 0, 1, 1, 2, 3, 4, 5, -1, -2, 7, 8, 11, 12, 13, math.MaxInt, math.MinInt)
	return numbers[r.Intn(len(numbers))]
}

// wildList returns a list of such numbers.
func wildList(r *rand.Rand) []int {
	var l []int
	for range r.Intn(5) {
		l = append(l, wild(r))
	}
	return l
}

// spoiled returns a treaty in which some numbers are anything.
func spoiled(r *rand.Rand) treaty.Treaty {
	t := anyTreaty(r)
	for range r.Intn(3) {
		switch r.Intn(6) {
		case 0:
			t.Places = wild(r)
		case 1:
			t.Ways = append(t.Ways, treaty.Way{A: wild(r), B: wild(r), Kind: wild(r)})
		case 2:
			t.Words = append(t.Words, []treaty.Meaning{means(wildList(r), wildList(r))})
		case 3:
			t.Starts = wildList(r)
		case 4:
			t.Legs = append(t.Legs, treaty.Leg{Word: wild(r), Other: wild(r)})
		case 5:
			t.Words = append(t.Words, nil)
		}
	}
	return t
}

// Every function ends for all arguments, and changes none of them (P0.1).
func TestAnyArguments(t *testing.T) {
	r := rand.New(rand.NewSource(6))
	ask(treaty.Treaty{}, nil, nil, nil, nil)
	for range 20000 {
		c := spoiled(r)
		before := copyOf(c)
		reading, line, legs := wildList(r), wildList(r), wildList(r)
		floors := [][]int{wildList(r), wildList(r), nil}
		kept := [][]int{slices.Clone(reading), slices.Clone(line), slices.Clone(legs), slices.Clone(floors[0]), slices.Clone(floors[1]), nil}
		a := ask(c, reading, line, legs, floors)
		if a.errors[0] != api.OK && !a.empty() {
			t.Error(c, a)
		}
		for _, e := range a.errors {
			if a.errors[0] != api.OK && e != a.errors[0] {
				t.Error(c, a.errors)
			}
		}
		if !reflect.DeepEqual(kept, [][]int{reading, line, legs, floors[0], floors[1], floors[2]}) {
			t.Error("arguments were changed:", kept, reading, line, legs, floors)
		}
		if !slices.EqualFunc(before.Words, c.Words, func(a, b []treaty.Meaning) bool { return len(a) == len(b) }) {
			t.Error("words were changed:", before, c)
		}
	}
}

// The greatest treaties have as many lines that come to nothing as 12 to the 10, which must not be looked through.
func TestGreatestTreatiesEnd(t *testing.T) {
	c := chain(12)
	for range 4 {
		c.Words = append(c.Words, slices.Repeat([]treaty.Meaning{means(upTo(8), upTo(12))}, 4))
	}
	c.Words = append(c.Words, []treaty.Meaning{means(list(7), list(11))})
	c.Legs = told(0, 1, 2, 3, 0, 1, 2, 3, 0, 4)
	for i := 0; len(c.Ways) < treaty.MaxWays; i++ {
		c.Ways = append(c.Ways, treaty.Way{A: i % 12, B: (i + 5) % 12, Kind: i % 7})
	}
	reading := list(0, 0, 0, 0, 0)
	expectLines(t, c, reading, 0)
	if all, e := treaty.All(c); len(all) > 0 || e != api.OK {
		t.Error(len(all), e)
	}
	if readings, e := treaty.Readings(c); len(readings) > 0 || e != api.OK {
		t.Error(len(readings), e)
	}
	if best, many, e := treaty.Fewest(c); !slices.Equal(best, reading) || many != 1 || e != api.OK {
		t.Error(best, many, e)
	}
	c.Words[4][0].Kinds = list(0)
	lines, e := treaty.Lines(c, reading)
	all, f := treaty.All(c)
	if lines != nil || all != nil || e != api.ErrLarge || f != api.ErrLarge {
		t.Error(len(lines), len(all), e, f)
	}
	ends, e := treaty.Ends(c)
	expect(t, "Ends", e, api.OK)
	expectLists(t, "Ends", ends, append(slices.Repeat([][]int{upTo(12)}, 10), list(11)))
}

// No result shares memory with an argument or another result, and no argument is changed.
func TestMemory(t *testing.T) {
	c := lake()
	c.Starts = list(0, 1)
	before := copyOf(c)
	reading, line, legs := list(1, 0), list(1, 3, 3), list(0)
	floors := [][]int{{0, 0, 3, 3}, {1, 1, 1, 0}, {1, 1, 1, 0}}
	a := ask(c, reading, line, legs, floors)
	again := ask(c, reading, line, legs, floors)
	if !reflect.DeepEqual(a, again) {
		t.Error(a, again)
	}
	number := 100
	scribble := func(l []int) {
		for i := range l {
			l[i] = number
			number++
		}
	}
	var lists [][]int
	for _, l := range a.lists {
		lists = append(lists, l...)
	}
	lists = append(lists, a.flat...)
	for _, l := range lists {
		scribble(l)
	}
	expected := 100
	for _, l := range lists {
		for _, n := range l {
			if n != expected {
				t.Error("two results share memory")
			}
			expected++
		}
	}
	unchanged(t, c, before)
	if !slices.Equal(reading, list(1, 0)) || !slices.Equal(line, list(1, 3, 3)) || !slices.Equal(legs, list(0)) ||
		!same(floors, [][]int{{0, 0, 3, 3}, {1, 1, 1, 0}, {1, 1, 1, 0}}) {
		t.Error("arguments were changed:", reading, line, legs, floors)
	}
	if third := ask(c, reading, line, legs, floors); !reflect.DeepEqual(third, again) {
		t.Error(third, again)
	}
}
