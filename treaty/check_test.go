package treaty_test

import (
	"testing"

	"limitrophe/api"
	"limitrophe/treaty"
)

// faults are ways to spoil the treaty of example 1, some for each place at which Check looks.
func faults() []struct {
	what  string
	spoil func(t *treaty.Treaty)
	e     api.Errno
} {
	return []struct {
		what  string
		spoil func(t *treaty.Treaty)
		e     api.Errno
	}{
		{"a word without meanings", func(t *treaty.Treaty) { t.Words = append(t.Words, nil) }, api.ErrCount},
		{"a way from nowhere", func(t *treaty.Treaty) { t.Ways[0].A = -1 }, api.ErrArg},
		{"a way of no kind", func(t *treaty.Treaty) { t.Ways[1].Kind = 8 }, api.ErrValue},
		{"a way to itself", func(t *treaty.Treaty) { t.Ways[2].B = 1 }, api.ErrArg},
		{"a meaning of no kind", func(t *treaty.Treaty) { t.Words[1][0].Kinds = list(1, 8) }, api.ErrValue},
		{"a meaning with an end nowhere", func(t *treaty.Treaty) { t.Words[0][1].Ends = list(4) }, api.ErrArg},
		{"a list out of order", func(t *treaty.Treaty) { t.Words[0][0].Ends = list(2, 1) }, api.ErrOrder},
	}
}

func TestCheckTakesValidTreaties(t *testing.T) {
	expect(t, "example 1", treaty.Check(lake()), api.OK)
	expect(t, "one place", treaty.Check(treaty.Treaty{Places: 1, Starts: list(0)}), api.OK)
	expect(t, "no legs", treaty.Check(treaty.Treaty{Places: 2, Words: lake().Words[:0], Starts: list(0, 1)}), api.OK)
	meaning := lake()
	meaning.Words[0][0] = treaty.Meaning{}
	expect(t, "a meaning without kinds and ends", treaty.Check(meaning), api.OK)
	other := lake()
	other.Legs[0].Other = 0
	expect(t, "a leg whose words are the same", treaty.Check(other), api.OK)
	again := lake()
	again.Ways = append(again.Ways, again.Ways[0], treaty.Way{A: 1, B: 0, Kind: 7})
	expect(t, "several ways between two places", treaty.Check(again), api.OK)
}

func TestCheckTellsCounts(t *testing.T) {
	const valid, none = api.OK, api.ErrCount
	for _, x := range []struct {
		what   string
		change func(t *treaty.Treaty)
		e      api.Errno
	}{
		{"no places", func(t *treaty.Treaty) { t.Places = 0 }, none},
		{"fewer places than none", func(t *treaty.Treaty) { t.Places = -1 }, none},
		{"12 places", func(t *treaty.Treaty) { t.Places = treaty.MaxPlaces }, valid},
		{"13 places", func(t *treaty.Treaty) { t.Places = treaty.MaxPlaces + 1 }, none},
		{"40 ways", func(t *treaty.Treaty) { t.Ways = manyWays(40) }, valid},
		{"41 ways", func(t *treaty.Treaty) { t.Ways = manyWays(41) }, none},
		{"6 words", func(t *treaty.Treaty) { t.Words = manyWords(1, 1, 1, 1, 1, 1) }, valid},
		{"7 words", func(t *treaty.Treaty) { t.Words = manyWords(1, 1, 1, 1, 1, 1, 1) }, none},
		{"no starts", func(t *treaty.Treaty) { t.Starts = nil }, none},
		{"as many starts as places", func(t *treaty.Treaty) { t.Starts = list(0, 1, 2, 3) }, valid},
		{"more starts than places", func(t *treaty.Treaty) { t.Starts = list(0, 1, 2, 3, 4) }, none},
		{"10 legs", func(t *treaty.Treaty) { t.Legs = told(0, 1, 0, 1, 0, 1, 0, 1, 0, 1) }, valid},
		{"11 legs", func(t *treaty.Treaty) { t.Legs = told(0, 1, 0, 1, 0, 1, 0, 1, 0, 1, 0) }, none},
		{"4 meanings", func(t *treaty.Treaty) { t.Words = manyWords(4, 4) }, valid},
		{"5 meanings", func(t *treaty.Treaty) { t.Words = manyWords(4, 5) }, none},
		{"no meaning", func(t *treaty.Treaty) { t.Words = manyWords(4, 0) }, none},
		{"256 readings", func(t *treaty.Treaty) { t.Words = manyWords(4, 4, 1, 4, 4) }, valid},
		{"257 readings and more", func(t *treaty.Treaty) { t.Words = manyWords(4, 4, 4, 4, 2) }, api.ErrLarge},
		{"288 readings", func(t *treaty.Treaty) { t.Words = manyWords(4, 4, 3, 3, 2, 1) }, api.ErrLarge},
	} {
		c := lake()
		x.change(&c)
		expect(t, x.what, treaty.Check(c), x.e)
	}
}

// manyWays makes ways.
func manyWays(n int) []treaty.Way {
	ways := make([]treaty.Way, n)
	for i := range ways {
		ways[i] = treaty.Way{A: i % 4, B: (i + 1) % 4, Kind: i % 8}
	}
	return ways
}

// manyWords makes words with so many meanings.
func manyWords(counts ...int) [][]treaty.Meaning {
	var words [][]treaty.Meaning
	for _, n := range counts {
		words = append(words, make([]treaty.Meaning, n))
	}
	return words
}

func TestCheckTellsValues(t *testing.T) {
	for _, x := range []struct {
		what   string
		change func(t *treaty.Treaty)
		e      api.Errno
	}{
		{"a way from -1", func(t *treaty.Treaty) { t.Ways[3].A = -1 }, api.ErrArg},
		{"a way from 4", func(t *treaty.Treaty) { t.Ways[3].A = 4 }, api.ErrArg},
		{"a way to -1", func(t *treaty.Treaty) { t.Ways[3].B = -1 }, api.ErrArg},
		{"a way to 4", func(t *treaty.Treaty) { t.Ways[3].B = 4 }, api.ErrArg},
		{"a way to itself", func(t *treaty.Treaty) { t.Ways[3].B = 2 }, api.ErrArg},
		{"a way of kind 7", func(t *treaty.Treaty) { t.Ways[3].Kind = 7 }, api.OK},
		{"a way of kind 8", func(t *treaty.Treaty) { t.Ways[3].Kind = 8 }, api.ErrValue},
		{"a way of kind -1", func(t *treaty.Treaty) { t.Ways[3].Kind = -1 }, api.ErrValue},
		{"one way with two errors", func(t *treaty.Treaty) { t.Ways[3] = treaty.Way{A: 9, B: 9, Kind: 9} }, api.ErrArg},
		{"a kind of 7", func(t *treaty.Treaty) { t.Words[1][0].Kinds = list(0, 7) }, api.OK},
		{"a kind of 8", func(t *treaty.Treaty) { t.Words[1][0].Kinds = list(0, 8) }, api.ErrValue},
		{"a kind of -1", func(t *treaty.Treaty) { t.Words[0][1].Kinds = list(-1) }, api.ErrValue},
		{"an end of 4", func(t *treaty.Treaty) { t.Words[0][1].Ends = list(4) }, api.ErrArg},
		{"an end of -1", func(t *treaty.Treaty) { t.Words[1][0].Ends = list(-1) }, api.ErrArg},
		{"a start of 4", func(t *treaty.Treaty) { t.Starts = list(0, 4) }, api.ErrArg},
		{"a start of -1", func(t *treaty.Treaty) { t.Starts = list(-1, 0) }, api.ErrArg},
		{"a leg of word 2", func(t *treaty.Treaty) { t.Legs[1].Word = 2 }, api.ErrArg},
		{"a leg of word None", func(t *treaty.Treaty) { t.Legs[1].Word = treaty.None }, api.ErrArg},
		{"a leg of other word 2", func(t *treaty.Treaty) { t.Legs[1].Other = 2 }, api.ErrArg},
		{"a leg of other word -2", func(t *treaty.Treaty) { t.Legs[1].Other = -2 }, api.ErrArg},
		{"a leg without words", func(t *treaty.Treaty) { t.Words = nil }, api.ErrArg},
		{"kinds out of order", func(t *treaty.Treaty) { t.Words[1][0].Kinds = list(2, 1) }, api.ErrOrder},
		{"a kind twice", func(t *treaty.Treaty) { t.Words[1][0].Kinds = list(1, 1) }, api.ErrOrder},
		{"ends out of order", func(t *treaty.Treaty) { t.Words[0][1].Ends = list(3, 2) }, api.ErrOrder},
		{"an end twice", func(t *treaty.Treaty) { t.Words[0][1].Ends = list(3, 3) }, api.ErrOrder},
		{"starts out of order", func(t *treaty.Treaty) { t.Starts = list(1, 0) }, api.ErrOrder},
		{"a start twice", func(t *treaty.Treaty) { t.Starts = list(0, 0) }, api.ErrOrder},
	} {
		c := lake()
		x.change(&c)
		expect(t, x.what, treaty.Check(c), x.e)
	}
}

// Of two errors, the one that is named first is told.
func TestCheckTellsTheFirstError(t *testing.T) {
	order := []struct {
		spoil func(t *treaty.Treaty)
		e     api.Errno
	}{
		{func(t *treaty.Treaty) { t.Places = 0 }, api.ErrCount},
		{func(t *treaty.Treaty) { t.Words = append(t.Words, nil) }, api.ErrCount},
		{func(t *treaty.Treaty) { t.Ways[0].A = -1 }, api.ErrArg},
		{func(t *treaty.Treaty) { t.Ways[1].Kind = 8 }, api.ErrValue},
		{func(t *treaty.Treaty) { t.Ways[2].B = 9 }, api.ErrArg},
		{func(t *treaty.Treaty) { t.Words[1][0].Kinds = list(8) }, api.ErrValue},
		{func(t *treaty.Treaty) { t.Words[0][0].Ends = list(4) }, api.ErrArg},
		{func(t *treaty.Treaty) { t.Words[0][1].Kinds = list(1, 1) }, api.ErrOrder},
		{func(t *treaty.Treaty) { t.Words = append(t.Words, manyWords(4, 4, 4, 4)...) }, api.ErrLarge},
	}
	for i, first := range order {
		for _, second := range order[i+1:] {
			c := lake()
			second.spoil(&c)
			first.spoil(&c)
			expect(t, "of two errors", treaty.Check(c), first.e)
		}
	}
	late := func(t *treaty.Treaty) { t.Words[0][1].Kinds = list(1, 1) }
	for what, spoil := range map[string]func(t *treaty.Treaty){
		"a start":      func(t *treaty.Treaty) { t.Starts = list(4) },
		"a word":       func(t *treaty.Treaty) { t.Legs[1].Word = 2 },
		"another word": func(t *treaty.Treaty) { t.Legs[1].Other = 2 },
	} {
		c := lake()
		late(&c)
		spoil(&c)
		expect(t, what, treaty.Check(c), api.ErrArg)
		kind := lake()
		spoil(&kind)
		kind.Words[0][0].Kinds = list(8)
		expect(t, what, treaty.Check(kind), api.ErrValue)
	}
	starts := lake()
	starts.Starts, starts.Words = list(1, 0), manyWords(4, 4, 4, 4, 4)
	expect(t, "starts before readings", treaty.Check(starts), api.ErrOrder)
}

// All functions return the errors of Check before all others, and nothing else.
func TestErrorsOfCheckComeFirst(t *testing.T) {
	for _, x := range faults() {
		c := lake()
		x.spoil(&c)
		a := ask(c, list(-1), list(-1), list(-1), nil)
		for _, e := range a.errors {
			expect(t, x.what, e, x.e)
		}
		if !a.empty() {
			t.Error(x.what, a)
		}
	}
}
