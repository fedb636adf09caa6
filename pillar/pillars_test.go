package pillar_test

import (
	"math/rand"
	"slices"
	"testing"

	"limitrophe/api"
	"limitrophe/pillar"
)

// P6.2: the fewest pillars of the chapter's examples 1 and 3, and of edge cases; and how many levels prove to be needed.
func TestFewest(t *testing.T) {
	for _, x := range []struct {
		what string
		p    pillar.Profile
		want string
	}{
		{"example 1", hill(), "0 1 3"},
		{"example 3: the first one of two lists", withGround(hill(), 1, span(150, 159)), "0 1 3"},
		{"two places", flat(2, 0), "0 1"},
		{"level ground", flat(9, 1), "0 8"},
		{"40 places on level ground", flat(40, 1), "0 39"},
		{"pillars without height", flat(4, 0), "0 1 2 3"},
		{"a valley", line(10, "9 0 5 0 9", 1), "0 4"},
		{"two hills", line(10, "0 9 5 9 0", 1), "0 1 3 4"},
		{"several lists: the least place at which they differ counts", line(10, "0 4 4 4 4 0", 1), "0 1 4 5"},
		{"three lists of three pillars", line(10, "5 9 9 9 5", 3), "0 1 4"},
		{"a place that can be as high", line(10, "5 0..9 5", 3), "0 1 2"},
		{"one that cannot", line(10, "5 0..7 5", 3), "0 2"},
		{"a Bend of 8 centimetres", bent(line(300, "5 5 5", 9), just(1000)), "0 1 2"},
		{"a Bend that can be as great", bent(line(300, "5 5 5", 9), span(0, 1000)), "0 1 2"},
		{"a Bend of a little less", bent(line(300, "5 5 5", 9), span(0, 999)), "0 2"},
	} {
		pillars, e := pillar.Fewest(x.p)
		if !slices.Equal(pillars, numbers(x.want)) || e != api.OK {
			t.Error(x.what, pillars, e)
		}
		levels, e := pillar.Levels(x.p)
		if e != api.OK || !areLevelsBy(surely(x.p), levels) {
			t.Error(x.what, levels, e)
		}
		if n, e := pillar.Proves(x.p, levels); n != len(pillars) || e != api.OK {
			t.Error(x.what, n, e)
		}
		if is, e := pillar.Holds(x.p, pillars); !is || e != api.OK {
			t.Error(x.what, is, e)
		}
	}
}

// P6.2: which pillars hold.
func TestHolds(t *testing.T) {
	for _, x := range []struct {
		p       pillar.Profile
		pillars string
		want    bool
	}{
		{hill(), "0 1 3", true},
		{hill(), "0 1 2 3", true},
		{hill(), "0 2 3", false}, // in some truth alone
		{withGround(hill(), 1, span(150, 159)), "0 2 3", true},
		{hill(), "0 3", false},
		{hill(), "", false},
		{hill(), "0", false},
		{hill(), "3", false},
		{hill(), "0 1", false},
		{hill(), "0 1 2", false},
		{hill(), "1 3", false},
		{hill(), "1 2 3", false},
		{hill(), "0 0 1 3", false},
		{hill(), "0 1 1 3", false},
		{hill(), "0 1 3 3", false},
		{hill(), "0 2 1 3", false},
		{hill(), "0 1 2 1 3", false},
		{hill(), "3 1 0", false},
		{hill(), "3 2 1 0", false},
		{flat(2, 0), "0 1", true},
		{flat(2, 0), "1 0", false},
		{flat(5, 1), "0 4", true},
		{flat(5, 1), "0 2 4", true},
		{flat(5, 0), "0 2 4", false},
		{flat(5, 0), "0 1 2 3 4", true},
	} {
		if is, e := pillar.Holds(x.p, numbers(x.pillars)); is != x.want || e != api.OK {
			t.Error(x.p, x.pillars, is, e)
		}
	}
}

// P6.2: what levels prove.
func TestProves(t *testing.T) {
	for _, x := range []struct {
		levels string
		n      int
		e      api.Errno
	}{
		{"0 1 2 2", 3, api.OK},
		{"0 1 1 2", 3, api.OK},
		{"38 39 40 40", 3, api.OK},
		{"0 0 1 1", 2, api.OK},
		{"0 0 0 0", 1, api.OK},
		{"0 1 0 1", 2, api.OK},
		{"7 5 6 6", 0, api.OK},
		{"3 2 1 0", -2, api.OK},
		{"40 0 0 0", -39, api.OK},
		{"0 1 2 3", 0, api.ErrFalse}, // 1 surely sees 3
		{"0 1 0 3", 0, api.ErrFalse},
		{"0 2 2 2", 0, api.ErrFalse},
		{"0 0 2 1", 0, api.ErrFalse},
		{"0 1 1 3", 0, api.ErrFalse},
	} {
		if n, e := pillar.Proves(hill(), numbers(x.levels)); n != x.n || e != x.e {
			t.Error(x.levels, n, e)
		}
	}
}

// P6.3: the chapter's examples 1 and 3, and edge cases.
func TestMend(t *testing.T) {
	ridges := line(10, "5 9 9 9 5 9 5", 3) // two ridges, before and behind the place 4
	for _, x := range []struct {
		what          string
		p             pillar.Profile
		pillars, want string
		lost          int
		e             api.Errno
	}{
		{"example 1: none hold without the pillar at 1", hill(), "0 1 3", "", 1, api.ErrNone},
		{"example 3: one at 2 stands for it", withGround(hill(), 1, span(150, 159)), "0 1 3", "0 2 3", 1, api.OK},
		{"and one at 1 for that", withGround(hill(), 1, span(150, 159)), "0 2 3", "0 1 3", 1, api.OK},
		{"none is needed", hill(), "0 1 2 3", "0 1 3", 2, api.OK},
		{"none is needed, though more pillars stand than are needed", flat(9, 1), "0 2 4 8", "0 4 8", 1, api.OK},
		{"the others stay", flat(9, 1), "0 2 4 8", "0 2 8", 2, api.OK},
		{"no place is left", flat(4, 0), "0 1 2 3", "", 2, api.ErrNone},
		{"the first place of several", ridges, "0 3 4 5 6", "0 1 4 5 6", 1, api.OK},
		{"the next one, as the first is lost", ridges, "0 1 4 5 6", "0 2 4 5 6", 1, api.OK},
		{"nothing stands for one between others that need it", ridges, "0 1 4 5 6", "", 3, api.ErrNone},
		{"two for one", line(10, "1 3 7 4 1", 4), "0 2 4", "0 1 3 4", 1, api.OK},
		{"the first two of several", line(10, "0 3 7 6 8 8 8", 3), "0 2 6", "0 1 3 6", 1, api.OK},
		{"the one in a valley", line(10, "0 9 5 9 0", 1), "0 1 2 3 4", "0 1 3 4", 2, api.OK},
	} {
		if l, e := pillar.Mend(x.p, numbers(x.pillars), x.lost); !slices.Equal(l, numbers(x.want)) || e != x.e {
			t.Error(x.what, l, e)
		}
	}
}

// P6.2: Fewest, Levels and Holds tell what all lists of places tell (P6.5, P0.7).
func TestAllLists(t *testing.T) {
	r := rand.New(rand.NewSource(5))
	var lengths [8]int
	several, holding, levelled := 0, 0, 0
	isAny := func([]int) bool { return true }
	for n := range 3000 {
		p := anyProfile(r, 2+r.Intn(9), 5)
		if n%2 == 1 {
			p = hilly(r, 2+r.Intn(9))
		}
		sees := surely(p)
		best := fewestBy(sees, isAny)
		pillars, e := pillar.Fewest(p)
		if !slices.Equal(pillars, best[0]) || e != api.OK {
			t.Error(p, pillars, e, best)
		}
		lengths[min(len(pillars), 7)]++
		several += min(len(best)-1, 1)
		levels, e := pillar.Levels(p)
		if !areLevelsBy(sees, levels) || slices.Min(levels) < 0 || slices.Max(levels) > 40 || e != api.OK {
			t.Error(p, levels, e)
		}
		if n, e := pillar.Proves(p, levels); n != len(pillars) || n != levels[len(levels)-1]-levels[0]+1 || e != api.OK {
			t.Error(p, levels, n, e)
		}
		holding += expectHolds(t, r, p, sees)
		levelled += expectProves(t, r, p, sees, levels)
	}
	if min(slices.Min(lengths[2:])+60, several, holding, 3000-holding, levelled, 3000-levelled) < 100 {
		t.Error("too few lists of some kind were tried:", lengths, several, holding, levelled)
	}
}

// expectHolds reports whether some pillars hold, and an answer of Holds that says otherwise.
func expectHolds(t *testing.T, r *rand.Rand, p pillar.Profile, sees [][]bool) int {
	t.Helper()
	pillars := anyHold(r, p)
	switch at := r.Intn(len(pillars)); r.Intn(6) {
	case 0:
		pillars[at] = r.Intn(len(p.At))
	case 1:
		pillars = slices.Delete(pillars, at, at+1)
	case 2:
		pillars = slices.Insert(pillars, at, r.Intn(len(p.At)))
	}
	want := holdBy(sees, pillars)
	if is, e := pillar.Holds(p, pillars); is != want || e != api.OK {
		t.Error(p, pillars, is, e)
	}
	if want {
		return 1
	}
	return 0
}

// expectProves reports whether numbers near to levels are some, and an answer of Proves that says otherwise.
func expectProves(t *testing.T, r *rand.Rand, p pillar.Profile, sees [][]bool, levels []int) int {
	t.Helper()
	levels = slices.Clone(levels)
	for range r.Intn(3) {
		levels[r.Intn(len(levels))] = r.Intn(len(levels) + 1)
	}
	n, e := pillar.Proves(p, levels)
	if !areLevelsBy(sees, levels) {
		if n != 0 || e != api.ErrFalse {
			t.Error(p, levels, n, e)
		}
		return 0
	}
	if n != levels[len(levels)-1]-levels[0]+1 || e != api.OK {
		t.Error(p, levels, n, e)
	}
	return 1
}

// P6.3: Mend tells what all lists of places tell.
func TestAllMends(t *testing.T) {
	r := rand.New(rand.NewSource(6))
	var more [5]int // how many pillars stand for a lost one; the last number: none can
	several := 0
	for tried := 0; tried < 4000; {
		p := anyProfile(r, 3+r.Intn(8), 5)
		if tried%4 > 0 {
			p = hilly(r, 5+r.Intn(6))
		}
		pillars := anyHold(r, p)
		if r.Intn(2) == 0 {
			pillars, _ = pillar.Fewest(p)
		}
		if len(pillars) < 3 {
			continue
		}
		tried++
		lost := 1 + r.Intn(len(pillars)-2)
		best := mendBy(surely(p), pillars, lost)
		l, e := pillar.Mend(p, pillars, lost)
		if len(best) == 0 {
			more[4]++
			if len(l) > 0 || e != api.ErrNone {
				t.Error(p, pillars, lost, l, e)
			}
			continue
		}
		if !slices.Equal(l, best[0]) || e != api.OK {
			t.Error(p, pillars, lost, l, e, best)
		}
		more[min(3, len(best[0])-len(pillars)+1)]++
		several += min(len(best)-1, 1)
	}
	if min(more[0], more[1], more[2]+30, more[4], several) < 50 {
		t.Error("too few losses of some kind were tried:", more, several)
	}
}

// P6.2, P6.3: of up to 40 places, the fewest pillars are those of the fewest steps, and those that stand for a lost one,
// too.
func TestManyPlaces(t *testing.T) {
	r := rand.New(rand.NewSource(7))
	var lengths [12]int
	mended := 0
	for n := range 300 {
		p := anyProfile(r, 11+r.Intn(30), 5)
		if n%3 == 0 {
			p = extreme(r, 11+r.Intn(30))
		}
		sees := surely(p)
		steps := stepsBy(sees)
		want := firstBy(steps, 0, len(p.At)-1)
		pillars, e := pillar.Fewest(p)
		if !slices.Equal(pillars, want) || e != api.OK {
			t.Error(p, pillars, e, want)
		}
		lengths[min(len(pillars), 11)]++
		levels, _ := pillar.Levels(p)
		if many, e := pillar.Proves(p, levels); many != len(want) || !areLevelsBy(sees, levels) || e != api.OK {
			t.Error(p, levels, many, e)
		}
		held := anyHold(r, p)
		if len(held) < 3 {
			continue
		}
		lost := 1 + r.Intn(len(held)-2)
		for other := range sees {
			sees[held[lost]][other], sees[other][held[lost]] = false, false
		}
		steps = stepsBy(sees)
		first, last := held[lost-1], held[lost+1]
		l, e := pillar.Mend(p, held, lost)
		if steps[first][last] >= 1000 {
			expect(t, "nothing stands for a lost one", e, api.ErrNone)
			continue
		}
		mended++
		want = slices.Concat(held[:lost-1], firstBy(steps, first, last), held[lost+2:])
		if !slices.Equal(l, want) || e != api.OK {
			t.Error(p, held, lost, l, e, want)
		}
	}
	if mended < 100 || lengths[2] > 200 || lengths[11] < 10 {
		t.Error("too few lists of some kind were tried:", lengths, mended)
	}
}

// P6.5: places side by side always see each other; taller pillars never see less; narrower spans never make more pillars
// necessary.
func TestWhatFollows(t *testing.T) {
	r := rand.New(rand.NewSource(8))
	fewer, more := 0, 0
	for range 1500 {
		p := anyProfile(r, 2+r.Intn(12), 6)
		place := r.Intn(len(p.At) - 1)
		if can, surely, e := pillar.Sees(p, place, place+1); !can || !surely || e != api.OK {
			t.Error("side by side:", p, place, can, surely, e)
		}
		if tall, e := pillar.Tall(p, place, place+1); tall != 0 || e != api.OK {
			t.Error("side by side:", p, place, tall, e)
		}
		pillars, _ := pillar.Fewest(p)
		pair := r.Perm(len(p.At))
		can, surely, _ := pillar.Sees(p, pair[0], pair[1])
		taller := withTall(p, p.Tall+r.Intn(pillar.MaxTall-p.Tall+1))
		if a, b, e := pillar.Sees(taller, pair[0], pair[1]); can && !a || surely && !b || e != api.OK {
			t.Error("taller pillars see less:", p, taller.Tall, pair[:2], a, b, e)
		}
		if l, e := pillar.Fewest(taller); len(l) > len(pillars) || e != api.OK {
			t.Error("taller pillars need more:", p, taller.Tall, l, pillars, e)
		} else if len(l) < len(pillars) {
			fewer++
		}
		narrow := bent(p, narrower(r, p.Bend))
		for place, s := range p.Ground {
			narrow = withGround(narrow, place, narrower(r, s))
		}
		if l, e := pillar.Fewest(narrow); len(l) > len(pillars) || e != api.OK {
			t.Error("narrower spans need more:", p, narrow, l, pillars, e)
		} else if len(l) < len(pillars) {
			more++
		}
		if is, e := pillar.Holds(narrow, pillars); !is || e != api.OK {
			t.Error("pillars do not hold in narrower spans:", p, narrow, pillars, e)
		}
	}
	if min(fewer, more) < 100 {
		t.Error("too few numbers of pillars changed:", fewer, more)
	}
}

// narrower returns a span within another one.
func narrower(r *rand.Rand, s api.Span) api.Span {
	return anySpan(r, s.Lo, s.Hi, s.Hi-s.Lo)
}
