package treaty_test

import (
	"math/rand"
	"reflect"
	"slices"
	"testing"

	"limitrophe/api"
	"limitrophe/treaty"
)

// list makes a list.
func list(n ...int) []int { return n }

// upTo makes a list of the numbers from 0 on that are less than an end.
func upTo(end int) []int {
	var l []int
	for n := range end {
		l = append(l, n)
	}
	return l
}

// means makes a meaning.
func means(kinds, ends []int) treaty.Meaning { return treaty.Meaning{Kinds: kinds, Ends: ends} }

// told makes legs that are told in one language.
func told(words ...int) []treaty.Leg {
	var legs []treaty.Leg
	for _, word := range words {
		legs = append(legs, treaty.Leg{Word: word, Other: treaty.None})
	}
	return legs
}

// lake is the treaty of example 1: a rock 0, a ford 1, a source 2 and a lake 3.
func lake() treaty.Treaty {
	return treaty.Treaty{
		Places: 4,
		Ways:   []treaty.Way{{A: 0, B: 1, Kind: 0}, {A: 1, B: 2, Kind: 0}, {A: 1, B: 3, Kind: 1}, {A: 2, B: 3, Kind: 2}},
		Words: [][]treaty.Meaning{
			{means(list(0), list(1, 2)), means(list(1), list(3))},
			{means(list(1, 2), list(3))},
		},
		Starts: list(0),
		Legs:   told(0, 1),
	}
}

// chain is a treaty with a chain of ways of the kind 0 through all its places, and one leg for each list of ends.
func chain(places int, ends ...[]int) treaty.Treaty {
	t := treaty.Treaty{Places: places, Starts: upTo(places)}
	for place := 1; place < places; place++ {
		t.Ways = append(t.Ways, treaty.Way{A: place, B: place - 1, Kind: 0})
	}
	for number, e := range ends {
		t.Words = append(t.Words, []treaty.Meaning{means(list(0), e)})
		t.Legs = append(t.Legs, told(number)...)
	}
	return t
}

// copyOf returns a treaty that shares no memory with another one.
func copyOf(t treaty.Treaty) treaty.Treaty {
	c := t
	c.Ways, c.Starts, c.Legs = slices.Clone(t.Ways), slices.Clone(t.Starts), slices.Clone(t.Legs)
	c.Words = nil
	for _, word := range t.Words {
		var meanings []treaty.Meaning
		for _, m := range word {
			meanings = append(meanings, means(slices.Clone(m.Kinds), slices.Clone(m.Ends)))
		}
		c.Words = append(c.Words, meanings)
	}
	return c
}

// same compares lists of lists.
func same(a, b [][]int) bool {
	return slices.EqualFunc(a, b, func(x, y []int) bool { return slices.Equal(x, y) })
}

// expect reports an error that is not the one wanted.
func expect(t *testing.T, what string, got, want api.Errno) {
	t.Helper()
	if got != want {
		t.Errorf("%s: error %d, not %d", what, got, want)
	}
}

// expectLists reports lists that are not those wanted.
func expectLists(t *testing.T, what string, got, want [][]int) {
	t.Helper()
	if !same(got, want) {
		t.Errorf("%s: %v, not %v", what, got, want)
	}
}

// answers has what all functions answer for the same arguments.
type answers struct {
	lists  [][][]int
	flat   [][]int
	counts []int
	is     bool
	errors []api.Errno
}

// ask calls all functions.
func ask(t treaty.Treaty, reading, line, legs []int, floors [][]int) answers {
	check := treaty.Check(t)
	lines, e1 := treaty.Lines(t, reading)
	breaks, e2 := treaty.Breaks(t, reading, line)
	agrees, e3 := treaty.Agrees(t, line)
	readings, e4 := treaty.Readings(t)
	all, e5 := treaty.All(t)
	ends, e6 := treaty.Ends(t)
	yield, e7 := treaty.Yield(t, reading)
	enough, e8 := treaty.Enough(t, reading, legs)
	best, fewest, e9 := treaty.Fewest(t)
	rows, e10 := treaty.Floors(t, reading)
	proved, e11 := treaty.Proves(t, reading, floors)
	return answers{
		lists:  [][][]int{lines, readings, all, ends, rows},
		flat:   [][]int{breaks, agrees, yield, best},
		counts: []int{fewest, proved},
		is:     enough,
		errors: []api.Errno{check, e1, e2, e3, e4, e5, e6, e7, e8, e9, e10, e11},
	}
}

// empty reports whether answers have nothing but errors.
func (a answers) empty() bool {
	for _, l := range a.lists {
		if l != nil {
			return false
		}
	}
	for _, l := range a.flat {
		if l != nil {
			return false
		}
	}
	return !a.is && slices.Max(a.counts) == 0 && slices.Min(a.counts) == 0
}

// some returns a sorted list of numbers that are less than an end, each once.
func some(r *rand.Rand, end int) []int {
	var l []int
	for n := range end {
		if r.Intn(2) == 0 {
			l = append(l, n)
		}
	}
	return l
}

// anyTreaty returns a valid treaty that is small enough to look through all its lines.
func anyTreaty(r *rand.Rand) treaty.Treaty {
	t := treaty.Treaty{Places: 1 + r.Intn(4)}
	for range r.Intn(5) {
		a, b := r.Intn(t.Places), r.Intn(t.Places)
		if a != b {
			t.Ways = append(t.Ways, treaty.Way{A: a, B: b, Kind: r.Intn(3)})
		}
	}
	for range r.Intn(3) {
		var word []treaty.Meaning
		for range 1 + r.Intn(3) {
			word = append(word, means(some(r, 3), some(r, t.Places)))
		}
		t.Words = append(t.Words, word)
	}
	t.Starts = some(r, t.Places)
	if len(t.Starts) == 0 {
		t.Starts = list(r.Intn(t.Places))
	}
	if len(t.Words) > 0 {
		for range r.Intn(4) {
			t.Legs = append(t.Legs, treaty.Leg{Word: r.Intn(len(t.Words)), Other: r.Intn(len(t.Words)+1) - 1})
		}
	}
	return t
}

// unchanged reports a treaty that is no longer what its copy is.
func unchanged(t *testing.T, now, before treaty.Treaty) {
	t.Helper()
	if !reflect.DeepEqual(now, before) {
		t.Errorf("the treaty was changed: %v, not %v", now, before)
	}
}
