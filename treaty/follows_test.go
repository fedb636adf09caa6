package treaty_test

import (
	"math/rand"
	"slices"
	"testing"

	"limitrophe/api"
	"limitrophe/treaty"
)

// leadsTo follows ways from a place, one after the other, as the chapter's terms say it.
func leadsTo(t treaty.Treaty, reading []int, leg treaty.Leg, from, to int) bool {
	words := list(leg.Word)
	if leg.Other != treaty.None {
		words = append(words, leg.Other)
	}
	allowed := func(kind int) bool {
		for _, word := range words {
			if !slices.Contains(t.Words[word][reading[word]].Kinds, kind) {
				return false
			}
		}
		return true
	}
	for _, word := range words {
		if !slices.Contains(t.Words[word][reading[word]].Ends, to) {
			return false
		}
	}
	waiting, met := list(from), map[int]bool{}
	for len(waiting) > 0 {
		here := waiting[0]
		waiting = waiting[1:]
		for _, way := range t.Ways {
			for _, next := range [][2]int{{way.A, way.B}, {way.B, way.A}} {
				if next[0] == here && allowed(way.Kind) && !met[next[1]] {
					met[next[1]] = true
					waiting = append(waiting, next[1])
				}
			}
		}
	}
	return met[to]
}

// allLists returns all lists with so many numbers, each less than its end, in their order.
func allLists(ends []int) [][]int {
	lists := [][]int{nil}
	for _, end := range ends {
		var longer [][]int
		for _, l := range lists {
			for n := range end {
				longer = append(longer, append(slices.Clone(l), n))
			}
		}
		lists = longer
	}
	return lists
}

// lawful has what follows from the terms alone, for a small treaty.
type lawful struct {
	readings, lines [][]int
	broken          map[string]map[string][]int // by reading and line
}

// key makes a text of a list.
func key(l []int) string {
	text := ""
	for _, n := range l {
		text += string(rune('a'+n)) + "."
	}
	return text
}

// look looks through all lines in all readings.
func look(t treaty.Treaty) lawful {
	var counts []int
	for _, word := range t.Words {
		counts = append(counts, len(word))
	}
	law := lawful{readings: allLists(counts), broken: map[string]map[string][]int{}}
	for _, line := range allLists(slices.Repeat(list(t.Places), len(t.Legs)+1)) {
		if slices.Contains(t.Starts, line[0]) {
			law.lines = append(law.lines, line)
		}
	}
	for _, reading := range law.readings {
		of := map[string][]int{}
		for _, line := range law.lines {
			var broken []int
			for number, leg := range t.Legs {
				if !leadsTo(t, reading, leg, line[number], line[number+1]) {
					broken = append(broken, number)
				}
			}
			of[key(line)] = broken
		}
		law.broken[key(reading)] = of
	}
	return law
}

// agreeing returns the lines that agree in a reading.
func (l lawful) agreeing(reading []int) [][]int {
	return slices.DeleteFunc(slices.Clone(l.lines), func(line []int) bool { return len(l.broken[key(reading)][key(line)]) > 0 })
}

// fewest returns how many legs must yield in a reading.
func (l lawful) fewest(reading []int) int {
	n := treaty.MaxLegs + 1
	for _, line := range l.lines {
		n = min(n, len(l.broken[key(reading)][key(line)]))
	}
	return n
}

// enough reports whether some line breaks none but these legs.
func (l lawful) enough(reading, legs []int) bool {
	return slices.ContainsFunc(l.lines, func(line []int) bool {
		return !slices.ContainsFunc(l.broken[key(reading)][key(line)], func(leg int) bool { return !slices.Contains(legs, leg) })
	})
}

// Whatever the functions answer is what one finds who looks through all lines.
func TestAnswersAreThoseOfAllLines(t *testing.T) {
	r := rand.New(rand.NewSource(1))
	for range 1500 {
		c := anyTreaty(r)
		expect(t, "Check", treaty.Check(c), api.OK)
		law := look(c)
		for _, reading := range law.readings {
			compareReading(t, c, law, reading)
		}
		compareAll(t, c, law)
		if t.Failed() {
			t.Fatal(c)
		}
	}
}

// compareReading compares what is answered for a reading.
func compareReading(t *testing.T, c treaty.Treaty, law lawful, reading []int) {
	want := law.agreeing(reading)
	lines, e := treaty.Lines(c, reading)
	if len(want) > treaty.MaxLines {
		expect(t, "Lines", e, api.ErrLarge)
	} else {
		expect(t, "Lines", e, api.OK)
		expectLists(t, "Lines", lines, want)
	}
	for _, line := range law.lines {
		broken, e := treaty.Breaks(c, reading, line)
		if !slices.Equal(broken, law.broken[key(reading)][key(line)]) || e != api.OK {
			t.Error("Breaks", reading, line, broken, e)
		}
	}
	fewest := law.fewest(reading)
	yield, e := treaty.Yield(c, reading)
	if len(yield) != fewest || !slices.IsSorted(yield) || !law.enough(reading, yield) || e != api.OK {
		t.Error("Yield", reading, yield, e)
	}
	for _, flags := range allLists(slices.Repeat(list(2), len(c.Legs))) {
		var legs []int
		for leg, flag := range flags {
			if flag == 1 {
				legs = append(legs, leg)
			}
		}
		if is, e := treaty.Enough(c, reading, legs); is != law.enough(reading, legs) || e != api.OK {
			t.Error("Enough", reading, legs, is, e)
		}
	}
	floors, e := treaty.Floors(c, reading)
	n, f := treaty.Proves(c, reading, floors)
	if n != fewest || e != api.OK || f != api.OK {
		t.Error("Floors", reading, floors, n, e, f)
	}
}

// compareAll compares what is answered for all readings.
func compareAll(t *testing.T, c treaty.Treaty, law lawful) {
	var readings, all [][]int
	var best []int
	fewest := treaty.MaxLegs + 1
	first := map[string][]int{}
	for _, reading := range law.readings {
		lines := law.agreeing(reading)
		if len(lines) > 0 {
			readings = append(readings, reading)
		}
		for _, line := range lines {
			if first[key(line)] == nil {
				first[key(line)] = append([]int{}, reading...)
				all = append(all, line)
			}
		}
		if n := law.fewest(reading); n < fewest {
			best, fewest = reading, n
		}
	}
	slices.SortFunc(all, slices.Compare)
	gotReadings, e := treaty.Readings(c)
	expect(t, "Readings", e, api.OK)
	expectLists(t, "Readings", gotReadings, readings)
	if gotAll, e := treaty.All(c); len(all) <= treaty.MaxLines {
		expect(t, "All", e, api.OK)
		expectLists(t, "All", gotAll, all)
	} else {
		expect(t, "All", e, api.ErrLarge)
	}
	for _, line := range law.lines {
		reading, e := treaty.Agrees(c, line)
		if !slices.Equal(reading, first[key(line)]) || (e == api.OK) != (first[key(line)] != nil) || e != api.OK && e != api.ErrNone {
			t.Error("Agrees", line, reading, e)
		}
	}
	gotBest, many, e := treaty.Fewest(c)
	if !slices.Equal(gotBest, best) || many != fewest || e != api.OK {
		t.Error("Fewest", gotBest, many, e)
	}
	compareEnds(t, c, all)
}

// compareEnds compares the places that lines have.
func compareEnds(t *testing.T, c treaty.Treaty, all [][]int) {
	ends, e := treaty.Ends(c)
	if len(all) == 0 {
		expect(t, "Ends", e, api.ErrNone)
		return
	}
	want := make([][]int, len(c.Legs)+1)
	for step := range want {
		for _, line := range all {
			want[step] = append(want[step], line[step])
		}
		slices.Sort(want[step])
		want[step] = slices.Compact(want[step])
	}
	expect(t, "Ends", e, api.OK)
	expectLists(t, "Ends", ends, want)
}

// isPart reports whether all lists of a part are among those of a whole.
func isPart(part, whole [][]int) bool {
	for _, l := range part {
		if !slices.ContainsFunc(whole, func(other []int) bool { return slices.Equal(l, other) }) {
			return false
		}
	}
	return true
}

// A meaning more of a word, behind its others, takes no line away.
func TestOneMeaningMore(t *testing.T) {
	r := rand.New(rand.NewSource(2))
	for range 500 {
		c := anyTreaty(r)
		before, e := treaty.All(c)
		if len(c.Words) == 0 || e != api.OK {
			continue
		}
		more := copyOf(c)
		word := r.Intn(len(c.Words))
		more.Words[word] = append(more.Words[word], means(some(r, 3), some(r, c.Places)))
		if after, e := treaty.All(more); e == api.OK && !isPart(before, after) || e != api.OK && e != api.ErrLarge {
			t.Error(more, before, after, e)
		}
	}
}

// grown returns a treaty with a way, a kind of a meaning, or an end of one more.
func grown(r *rand.Rand, t treaty.Treaty) treaty.Treaty {
	more := copyOf(t)
	if r.Intn(3) == 0 || len(t.Words) == 0 {
		more.Ways = append(more.Ways, treaty.Way{A: 0, B: 1, Kind: r.Intn(3)})
		return more
	}
	word := more.Words[r.Intn(len(t.Words))]
	m := &word[r.Intn(len(word))]
	if r.Intn(2) == 0 {
		m.Kinds = with(m.Kinds, r.Intn(3))
	} else {
		m.Ends = with(m.Ends, r.Intn(t.Places))
	}
	return more
}

// with returns a sorted list with a number more.
func with(l []int, n int) []int {
	l = append(slices.Clone(l), n)
	slices.Sort(l)
	return slices.Compact(l)
}

// A way more, a kind more of a meaning, or an end more, makes no more legs yield.
func TestMoreGroundMakesNoMoreLegsYield(t *testing.T) {
	r := rand.New(rand.NewSource(3))
	for range 500 {
		c := anyTreaty(r)
		if c.Places < 2 {
			continue
		}
		more := grown(r, c)
		expect(t, "Check", treaty.Check(more), api.OK)
		for _, reading := range look(c).readings {
			before, e := treaty.Yield(c, reading)
			after, f := treaty.Yield(more, reading)
			if len(after) > len(before) || e != api.OK || f != api.OK {
				t.Error(c, more, reading, before, after, e, f)
			}
		}
	}
}

// A leg that is told in a second language, too, adds no line.
func TestSecondLanguageAddsNoLine(t *testing.T) {
	r := rand.New(rand.NewSource(4))
	for range 500 {
		c := anyTreaty(r)
		before, e := treaty.All(c)
		if len(c.Legs) == 0 || e != api.OK {
			continue
		}
		both := copyOf(c)
		leg := &both.Legs[r.Intn(len(both.Legs))]
		if leg.Other != treaty.None {
			continue
		}
		leg.Other = r.Intn(len(c.Words))
		if after, e := treaty.All(both); e != api.OK || !isPart(after, before) {
			t.Error(both, before, after, e)
		}
	}
}

// Without legs each of Starts is a line.
func TestWithoutLegsEachStartIsALine(t *testing.T) {
	c := lake()
	c.Legs, c.Starts = nil, list(0, 2, 3)
	all, e := treaty.All(c)
	expect(t, "All", e, api.OK)
	expectLists(t, "All", all, [][]int{{0}, {2}, {3}})
	for _, reading := range [][]int{{0, 0}, {1, 0}} {
		lines, e := treaty.Lines(c, reading)
		expect(t, "Lines", e, api.OK)
		expectLists(t, "Lines", lines, all)
	}
}

// Each word of a treaty is kept by each line that is told, in one of its meanings; and where no line keeps all words,
// the fewest legs that must yield are told, and proved by floors (P0.2).
func TestWords(t *testing.T) {
	r := rand.New(rand.NewSource(5))
	for range 500 {
		c := anyTreaty(r)
		all, e := treaty.All(c)
		if e != api.OK {
			continue
		}
		for _, line := range all {
			reading, e := treaty.Agrees(c, line)
			broken, f := treaty.Breaks(c, reading, line)
			if len(broken) > 0 || e != api.OK || f != api.OK {
				t.Error(c, line, reading, broken, e, f)
			}
		}
		reading, many, e := treaty.Fewest(c)
		expect(t, "Fewest", e, api.OK)
		floors, e := treaty.Floors(c, reading)
		proved, f := treaty.Proves(c, reading, floors)
		if proved != many || (many == 0) != (len(all) > 0) || e != api.OK || f != api.OK {
			t.Error(c, reading, many, proved, e, f)
		}
	}
}
