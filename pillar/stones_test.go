package pillar_test

import (
	"math/rand"
	"slices"
	"strings"
	"testing"

	"limitrophe/api"
	"limitrophe/pillar"
)

// lists makes a list of lists of numbers, with / between them.
func lists(text string) [][]int {
	var l [][]int
	for part := range strings.SplitSeq(text, "/") {
		l = append(l, numbers(part))
	}
	return l
}

// P6.4: finds with a reading, and with several: the chapter's example 4, and edge cases.
func TestReadings(t *testing.T) {
	for _, x := range []struct {
		what          string
		bottles, gaps string
		many          int
		want          string
	}{
		{"example 4: two readings", "- -", "150..155", 2, "0 1 / 2 3"},
		{"example 4: a bottle that says 3", "- 3", "150..155", 1, "1 / 3"},
		{"a bottle that says 0", "0 -", "150..155", 1, "0 / 2"},
		{"both bottles", "1 3", "150..155", 1, "1 / 3"},
		{"one stone", "-", "", 4, "0 1 2 3"},
		{"one stone, and its bottle", "2", "", 1, "2"},
		{"just the least sum", "- -", "1..50", 1, "1 / 2"},
		{"just the greatest sum", "- -", "260..20000", 1, "0 / 3"},
		{"a gap that can be anything", "- -", "1..20000", 6, "0 1 2 / 1 2 3"},
		{"a gap that meets three sums at its ends", "- -", "110..150", 3, "0 1 / 1 2 3"},
		{"a gap between two sums", "- -", "111..149", 0, ""},
		{"a gap that is less than all sums", "- -", "1..49", 0, ""},
		{"a gap that is more than all sums", "- -", "261..20000", 0, ""},
		{"three stones", "- - -", "100 150", 1, "0 / 1 / 3"},
		{"all pillars", "- - - -", "100..110 50 100", 1, "0 / 1 / 2 / 3"},
		{"all pillars, and all bottles", "0 1 2 3", "100..110 50 100", 1, "0 / 1 / 2 / 3"},
		{"a bottle that the gaps contradict", "- 2", "100", 0, ""},
		{"bottles that do not increase", "2 1", "50", 0, ""},
		{"bottles that say the same", "1 1", "1..20000", 0, ""},
		{"a first bottle that says the last pillar", "3 -", "1..20000", 0, ""},
		{"a last bottle that says the first pillar", "- 0", "1..20000", 0, ""},
		{"more stones than pillars", "- - - - -", "1..20000 1..20000 1..20000 1..20000", 0, ""},
	} {
		f := finds(x.bottles, x.gaps)
		if n, e := pillar.Readings(book(), f); n != x.many || e != api.OK {
			t.Error(x.what, n, e)
		}
		l, e := pillar.Numbers(book(), f)
		if x.many == 0 {
			if len(l) > 0 || e != api.ErrClash {
				t.Error(x.what, l, e)
			}
			continue
		}
		if !slices.EqualFunc(l, lists(x.want), slices.Equal[[]int]) || e != api.OK {
			t.Error(x.what, l, e)
		}
	}
}

// P6.4: a number is told only if the stones before and behind can be read with it.
func TestNumbersOfWholeReadings(t *testing.T) {
	r := roll("10 20 10 30 10")
	f := finds("- - -", "10 30") // 0, 1 and 3; 2, 3 and 4; not 4, 5 and any
	l, e := pillar.Numbers(r, f)
	if !slices.EqualFunc(l, lists("0 2 / 1 3 / 3 4"), slices.Equal[[]int]) || e != api.OK {
		t.Error(l, e)
	}
	f = finds("- - -", "30 10") // 1, 3 and none; 3, 4 and 5; 0, 2 and 3
	l, e = pillar.Numbers(r, f)
	if !slices.EqualFunc(l, lists("0 3 / 2 4 / 3 5"), slices.Equal[[]int]) || e != api.OK {
		t.Error(l, e)
	}
}

// P6.4: stones that alone can be wrong: the chapter's example 4, and edge cases.
func TestWrong(t *testing.T) {
	for _, x := range []struct{ what, bottles, gaps, want string }{
		{"example 4: the one between two others", "- - -", "120..130 30..40", "1"},
		{"the first one", "- - -", "120..130 50", "0"},
		{"the last one", "- - -", "50 500", "2"},
		{"one of two, either", "- -", "500", "0 1"},
		{"one of two, either, by their bottles", "0 3", "150..155", "0 1"},
		{"bottles that do not increase", "3 2", "100", "0 1"},
		{"a bottle that is wrong", "- 0 -", "50 100", "0 1"},
		{"any of three", "- - -", "50 50", "0 1 2"},
		{"none alone", "- - - -", "500 50 500", ""},
		{"none alone, by bottles", "3 2 1 0", "100 50 100", ""},
		{"a sum of gaps that fits at its one end", "- - -", "75 75..80", "1"},
		{"a sum of gaps that fits at its other end", "- - -", "30..40 20..60", "0 1"},
		{"a sum of gaps that is just as great as can be", "- - -", "120..130 140..145", "1"},
		{"a sum of gaps that is too great by one", "- - -", "120..130 141..145", ""},
		{"two between two others", "- - - -", "70 80 101", ""},
		{"a sum of gaps that is more than MaxAt", "- - -", "20000 20000", ""},
		{"the third of four", "- - - -", "100..110 20 130", "2"},
	} {
		f := finds(x.bottles, x.gaps)
		want := numbers(x.want)
		if l, e := pillar.Wrong(book(), f); !slices.Equal(l, want) || !slices.Equal(l, wrongBy(book(), f)) || e != api.OK {
			t.Error(x.what, l, wrongBy(book(), f), e)
		}
	}
}

// P6.4: what is told of finds is what all their readings tell.
func TestAllReadings(t *testing.T) {
	r := rand.New(rand.NewSource(9))
	var counts [3]int // no reading, one, several
	var wrongs [4]int // how many stones can be wrong
	places := [3]int{}
	for range 20000 {
		x := anyRoll(r, 1+r.Intn(7))
		f := anyFinds(r, x, 1+r.Intn(6))
		readings := readingsBy(x, f)
		counts[min(2, len(readings))]++
		if n, e := pillar.Readings(x, f); n != len(readings) || e != api.OK {
			t.Error(x, f, n, e, readings)
		}
		l, e := pillar.Numbers(x, f)
		wrong, g := pillar.Wrong(x, f)
		if len(readings) > 0 {
			if want := numbersBy(readings); !slices.EqualFunc(l, want, slices.Equal[[]int]) || e != api.OK {
				t.Error(x, f, l, e, want)
			}
			if len(wrong) > 0 || g != api.ErrState {
				t.Error(x, f, wrong, g)
			}
			continue
		}
		if len(l) > 0 || e != api.ErrClash {
			t.Error(x, f, l, e)
		}
		if want := wrongBy(x, f); !slices.Equal(wrong, want) || g != api.OK {
			t.Error(x, f, wrong, g, want)
		}
		wrongs[min(3, len(wrong))]++
		for _, stone := range wrong {
			places[min(1, stone)+stone/(len(f.Numbers)-1)]++
		}
	}
	if min(slices.Min(counts[:]), slices.Min(wrongs[:]), slices.Min(places[:])) < 100 {
		t.Error("too few finds of some kind were tried:", counts, wrongs, places)
	}
}

// P6.5: if a roll and finds are true, what each stone is is among its numbers.
func TestTrueFinds(t *testing.T) {
	r := rand.New(rand.NewSource(10))
	for range 4000 {
		x := anyRoll(r, 1+r.Intn(39))
		f, pillars, _ := found(r, x, 1+r.Intn(40))
		n, e := pillar.Readings(x, f)
		l, g := pillar.Numbers(x, f)
		if n < 1 || len(l) != len(pillars) || e != api.OK || g != api.OK {
			t.Error(x, f, n, e, l, g)
			continue
		}
		for stone, is := range pillars {
			if !slices.Contains(l[stone], is) || !slices.IsSorted(l[stone]) || slices.Min(l[stone]) < 0 || slices.Max(l[stone]) > len(x.Gaps) {
				t.Error(x, f, pillars, l)
			}
		}
	}
}

// P6.5: if one stone alone was moved, between its neighbours, it can be wrong, or there is a reading nevertheless.
func TestMovedStones(t *testing.T) {
	r := rand.New(rand.NewSource(11))
	named, alone := 0, 0
	for tried := 0; tried < 4000; {
		x := anyRoll(r, 2+r.Intn(20))
		f, _, at := found(r, x, 2+r.Intn(12))
		moved := r.Intn(len(at))
		least, most := -30, at[len(at)-1]+30
		if moved > 0 {
			least = at[moved-1]
		}
		if moved < len(at)-1 {
			most = at[moved+1]
		}
		if most-least < 2 {
			continue
		}
		tried++
		at[moved] = least + 1 + r.Intn(most-least-1)
		f.Gaps = gapsOf(r, at)
		n, e := pillar.Readings(x, f)
		wrong, g := pillar.Wrong(x, f)
		if e != api.OK || n == 0 && (g != api.OK || !slices.Contains(wrong, moved)) || n > 0 && g != api.ErrState {
			t.Error(x, f, moved, n, e, wrong, g)
		}
		if n == 0 {
			named++
			if len(wrong) == 1 {
				alone++
			}
		}
	}
	if named < 500 || alone < 100 {
		t.Error("too few stones were named:", named, alone)
	}
}

// P6.4: the most readings that there can be, and the longest roll and finds.
func TestMostReadings(t *testing.T) {
	x := roll(many("1..20000", 39))
	for _, stones := range []struct{ many, readings int }{{1, 40}, {2, 780}, {20, 137846528820}, {39, 40}, {40, 1}} {
		f := finds(many("-", stones.many), many("1..20000", stones.many-1))
		if n, e := pillar.Readings(x, f); n != stones.readings || e != api.OK {
			t.Error(stones, n, e)
		}
		l, e := pillar.Numbers(x, f)
		if len(l) != stones.many || e != api.OK {
			t.Error(stones, l, e)
		}
		for stone, numbers := range l {
			if len(numbers) != 41-stones.many || numbers[0] != stone {
				t.Error(stones, stone, numbers)
			}
		}
	}
	short := roll(many("1", 39))
	f := finds(many("-", 40), many("1", 19)+" 2"+many("1", 19))
	if n, e := pillar.Readings(short, f); n != 0 || e != api.OK {
		t.Error(n, e)
	}
	if l, e := pillar.Wrong(short, f); !slices.Equal(l, list(0, 39)) || e != api.OK {
		t.Error(l, e)
	}
	long := roll(many("20000", 39))
	if n, e := pillar.Readings(long, finds("- -", "20000")); n != 39 || e != api.OK {
		t.Error(n, e)
	}
}
