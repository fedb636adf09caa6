package pillar_test

import (
	"math/rand"
	"testing"

	"limitrophe/api"
	"limitrophe/pillar"
)

// P6.1: what places see of each other, and the Tall that they need: the chapter's examples 1 to 3, and edge cases.
func TestSights(t *testing.T) {
	far := pillar.Profile{At: list(0, 10000, 20000), Ground: spans("0 0 0")}
	for _, x := range []struct {
		what        string
		p           pillar.Profile
		i, j        int
		can, surely bool
		tall        int
	}{
		{"example 1: in some truth, but not surely", hill(), 0, 2, true, false, 51},
		{"example 1: surely", hill(), 1, 3, true, true, 0},
		{"example 1: in no truth", hill(), 0, 3, false, false, 61},
		{"example 2: a Bend that raises the ground by 1", bent(hill(), just(1000)), 0, 2, true, false, 52},
		{"a Bend that raises it by less than 1", bent(hill(), just(999)), 0, 2, true, false, 51},
		{"a Bend that can raise it by 1", bent(hill(), span(0, 1000)), 0, 2, true, false, 52},
		{"example 3: surely, as the place is lower", withGround(hill(), 1, span(150, 159)), 0, 2, true, true, 50},
		{"example 3: a Bend in which it is not so", bent(withGround(hill(), 1, span(150, 159)), span(0, 1000)), 0, 2, true, false, 51},
		{"side by side", hill(), 0, 1, true, true, 0},
		{"side by side, at the end", hill(), 3, 2, true, true, 0},
		{"side by side, and no Tall", withTall(line(1, "0 1000000 0", 0), 0), 0, 1, true, true, 0},
		{"side by side, and the greatest Bend", bent(far, just(1000)), 1, 2, true, true, 0},
		{"just as high as the line", line(10, "20 25 30", 0), 0, 2, false, false, 1},
		{"one lower than the line", line(10, "20 24 30", 0), 0, 2, true, true, 0},
		{"one higher than the line", line(10, "20 26 30", 0), 0, 2, false, false, 2},
		{"just as high as the line between heads", line(10, "20 25 30", 1), 0, 2, true, true, 1},
		{"just as high as the line can be", line(10, "20 25..26 30", 1), 0, 2, true, false, 2},
		{"as high as the line is in all truths but one", line(10, "20 24..25 30..32", 0), 0, 2, true, false, 1},
		{"heads that can be too low", line(10, "18..20 25 30", 1), 0, 2, true, false, 2},
		{"a line that is half a centimetre higher", line(10, "20 25 31", 0), 0, 2, true, true, 0},
		{"a line that is half a centimetre lower", line(10, "20 25 29", 0), 0, 2, false, false, 1},
		{"no Tall at all on level ground", flat(5, 0), 0, 4, false, false, 1},
		{"level ground", flat(5, 1), 0, 4, true, true, 1},
		{"a second place that hides", line(10, "5 0 9 0 5", 3), 0, 4, false, false, 5},
		{"the last place between hides", line(10, "5 0 0 9 5", 4), 0, 4, false, false, 5},
		{"places that are not between hide nothing", line(10, "99 5 4 5 99", 0), 1, 3, true, true, 0},
		{"a Bend of 10 kilometres", bent(withTall(far, 0), just(2)), 0, 2, false, false, 21},
		{"the Tall that is needed for the greatest Bend", bent(withGround(withGround(far, 0, just(9000)), 2, just(9000)), just(1000)), 0, 2, false, false, 1001},
		{"all of MaxTall", withTall(line(10, "0 1999 0", 0), 2000), 0, 2, true, true, 2000},
		{"one less than MaxTall", withTall(line(10, "0 1999 0", 0), 1999), 0, 2, false, false, 2000},
	} {
		for range 2 {
			can, surely, e := pillar.Sees(x.p, x.i, x.j)
			if can != x.can || surely != x.surely || e != api.OK {
				t.Error(x.what, can, surely, e)
			}
			if tall, e := pillar.Tall(x.p, x.i, x.j); tall != x.tall || e != api.OK {
				t.Error(x.what, tall, e)
			}
			x.i, x.j = x.j, x.i
		}
	}
}

// P6.1: a Tall that would have to be more than MaxTall.
func TestTallerThanCanBe(t *testing.T) {
	for _, x := range []struct {
		what string
		p    pillar.Profile
		tall int
		e    api.Errno
	}{
		{"just as high as MaxTall", line(10, "0 2000 0", 2000), 0, api.ErrLarge},
		{"one less high", line(10, "0 1999 0", 2000), 2000, api.OK},
		{"that can be as high", line(10, "0 5..2000 0", 0), 0, api.ErrLarge},
		{"a Bend that raises the ground a little", bent(line(10, "0 1999 0", 0), just(1)), 2000, api.OK},
		{"a Bend that raises the ground by 1", bent(line(100, "0 1999 0", 0), just(1000)), 0, api.ErrLarge},
		{"the highest", line(10, "0 1000000 0", 0), 0, api.ErrLarge},
		{"the highest between those that can be as high", line(10, "0..1000000 1000000 0..1000000", 0), 0, api.ErrLarge},
		{"all as high as can be", line(10, "1000000 1000000 1000000", 0), 1, api.OK},
		{"the greatest Bend", bent(line(10000, "0 0 0", 0), just(1000)), 0, api.ErrLarge},
	} {
		tall, e := pillar.Tall(x.p, 2, 0)
		if tall != x.tall || e != x.e {
			t.Error(x.what, tall, e)
		}
	}
}

// P6.1: what places see of each other in a truth.
func TestTruths(t *testing.T) {
	for _, x := range []struct {
		what    string
		p       pillar.Profile
		heights string
		bend    int
		i, j    int
		is      bool
	}{
		{"example 1: the line has 160 between them", hill(), "100 159 120 100", 0, 0, 2, true},
		{"example 1: and that is not less", hill(), "100 160 120 100", 0, 0, 2, false},
		{"example 1: 150 against 150", hill(), "100 150 120 100", 0, 0, 3, false},
		{"example 1: 175 against 120", hill(), "100 150 120 100", 0, 1, 3, true},
		{"side by side", hill(), "100 160 120 100", 0, 1, 2, true},
		{"a Bend of less than 1", bent(hill(), span(0, 1000)), "100 159 120 100", 999, 0, 2, true},
		{"a Bend of 1", bent(hill(), span(0, 1000)), "100 159 120 100", 1000, 0, 2, false},
		{"the first place in a truth", line(10, "5..9 7 5..9", 1), "5 7 9", 0, 0, 2, true},
		{"the last place in a truth", line(10, "5..9 7 5..9", 1), "5 7 7", 0, 0, 2, false},
	} {
		for range 2 {
			if is, e := pillar.Real(x.p, numbers(x.heights), x.bend, x.i, x.j); is != x.is || e != api.OK {
				t.Error(x.what, is, e)
			}
			x.i, x.j = x.j, x.i
		}
	}
}

// anyTruth returns a truth of a profile, often one at the ends of spans.
func anyTruth(r *rand.Rand, p pillar.Profile) (heights []int, bend int) {
	pick := func(s api.Span) int { return list(s.Lo, s.Hi, s.Lo+r.Intn(s.Hi-s.Lo+1))[r.Intn(3)] }
	for _, s := range p.Ground {
		heights = append(heights, pick(s))
	}
	return heights, pick(p.Bend)
}

// P6.1: in each truth, places see each other as fractions tell, and within what they can and surely do.
func TestAnyTruth(t *testing.T) {
	r := rand.New(rand.NewSource(3))
	var counts [2][4]int // by whether a profile is extreme; sights: not, in the truth, possible, sure
	for n := range 6000 {
		p := anyProfile(r, 2+r.Intn(9), 5)
		if n%2 == 1 {
			p = extreme(r, 2+r.Intn(39))
		}
		heights, bend := anyTruth(r, p)
		pair := r.Perm(len(p.At))
		i, j := pair[0], pair[1]
		want := seenBy(p, heights, bend, i, j)
		is, e := pillar.Real(p, heights, bend, i, j)
		if is != want || e != api.OK {
			t.Error(p, heights, bend, i, j, is, e)
		}
		can, surely, e := pillar.Sees(p, i, j)
		if surely && !want || want && !can || e != api.OK {
			t.Error("not within what is told:", p, heights, bend, i, j, want, can, surely, e)
		}
		if max(i, j)-min(i, j) > 1 {
			for kind, holds := range [4]bool{!want, want, can, surely} {
				if holds {
					counts[n%2][kind]++
				}
			}
		}
	}
	for _, count := range counts {
		if min(count[0], count[1], count[2]-count[1], count[3], count[1]-count[3]) < 20 {
			t.Error("too few sights of some kind were tried:", counts)
		}
	}
}

// P6.1: what places can see of each other, and surely do, is what all truths tell; and the Tall that they need is the
// least one with which it is so in the worst truth.
func TestAllTruths(t *testing.T) {
	r := rand.New(rand.NewSource(4))
	var kinds [3]int // of sights of places that are not side by side: never, in some truths, in all
	large := 0
	for range 4000 {
		p := anyProfile(r, 2+r.Intn(4), 2)
		pair := r.Perm(len(p.At))
		i, j := pair[0], pair[1]
		can, surely := false, true
		truths(p, func(heights []int, bend int) {
			sees := seenBy(p, heights, bend, i, j)
			can, surely = can || sees, surely && sees
		})
		a, b, e := pillar.Sees(p, i, j)
		if a != can || b != surely || e != api.OK {
			t.Error(p, i, j, a, b, e, can, surely)
		}
		if max(i, j)-min(i, j) > 1 {
			switch {
			case surely:
				kinds[2]++
			case can:
				kinds[1]++
			default:
				kinds[0]++
			}
		}
		tall, e := pillar.Tall(p, i, j)
		heights, bend := worst(p, i, j)
		if e == api.ErrLarge {
			large++
			if tall != 0 || seenBy(withTall(p, pillar.MaxTall), heights, bend, i, j) {
				t.Error(p, i, j, tall)
			}
			continue
		}
		isLeast := tall == 0 || !seenBy(withTall(p, tall-1), heights, bend, i, j)
		if e != api.OK || !seenBy(withTall(p, tall), heights, bend, i, j) || !isLeast {
			t.Error(p, i, j, tall, e)
		}
	}
	if min(kinds[0], kinds[1], kinds[2], large) < 30 {
		t.Error("too few sights of some kind were tried:", kinds, large)
	}
}
