package enclave_test

import (
	"math/rand"
	"slices"
	"testing"

	"limitrophe/api"
	"limitrophe/enclave"
)

// drawn returns the division of a land that is told, and how many houses it cuts, after asking whether it and the walks are
// what they have to be.
func drawn(t *testing.T, l enclave.Land) ([]int, int) {
	t.Helper()
	owners, cut, e := enclave.Divide(l)
	cost, f := enclave.Cost(l, owners)
	if e != api.OK || f != api.OK || !isDivision(l, owners) || cost != cut || cutBy(l, owners) != cut {
		t.Error("no division, or it cuts another number of houses:", l, owners, cut, cost, e, f)
	}
	walks, e := enclave.Walks(l)
	proven, f := enclave.Proves(l, walks)
	families, are := provenBy(l, walks)
	if e != api.OK || f != api.OK || !are || len(walks) > 2000 || proven != cut || families != cut {
		t.Error("no walks, or not of as many families:", l, walks, cut, proven, e, f)
	}
	if slices.ContainsFunc(walks, func(w enclave.Walk) bool { return len(w.Plots) > 100 }) {
		t.Error("a walk of too many plots:", l, walks)
	}
	return owners, cut
}

// P8.4: the divisions that cut the fewest houses, and how many walks prove it.
func TestDivide(t *testing.T) {
	for _, x := range []struct {
		what   string
		l      enclave.Land
		fewest int
		owners []int // if only one division cuts so few
	}{
		{"example 3", row(), 2, list(0, 0, 1, 1)},
		{"example 4", square(), 3, list(0, 0, 1, 1)},
		{"the other way round", land("1..0", list(4, 2, 3, 0), make([]int, 4)), 2, list(1, 1, 0, 0)},
		{"a column", land("0 . . 1", make([]int, 4), list(4, 2, 3, 0)), 2, list(0, 0, 1, 1)},
		{"no plot is disputed", land("01 10", list(3, 0, 5, 0), list(7, 11, 0, 0)), 26, list(0, 1, 1, 0)},
		{"no plot is disputed, and states hang together", land("011 001", list(1, 2, 0, 4, 8, 0), list(16, 32, 64, 0, 0, 0)), 41, list(0, 1, 1, 0, 0, 1)},
		{"two plots", land("01", list(1000, 0), list(0, 0)), 1000, list(0, 1)},
		{"two plots without houses", land("01", list(0, 0), list(0, 0)), 0, list(0, 1)},
		{"no houses at all", land("0.. .1.", make([]int, 6), make([]int, 6)), 0, nil},
		{"no houses look from a disputed plot", land("0.1", make([]int, 3), make([]int, 3)), 0, nil},
		{"nothing between the states", land("0.. ..1", list(9, 0, 0, 0, 9, 0), list(9, 0, 0, 0, 0, 0)), 0, nil},
		{"a row in which any place is as good", land("0...1", list(2, 2, 2, 2, 0), make([]int, 5)), 2, nil},
		{"in two ways", land("0.1", list(5, 5, 0), make([]int, 3)), 5, nil},
		{"a disputed plot next to one state alone", land(".01", list(3, 1, 0), make([]int, 3)), 1, list(0, 0, 1)},
		{"the states are in pieces", land("0.1 ... 1.0", list(1, 1, 0, 1, 1, 0, 1, 1, 0), list(1, 1, 1, 1, 1, 1, 0, 0, 0)), 4, nil},
		{"around a plot of the other state", land("... .0. ..1", list(2, 2, 0, 5, 5, 0, 1, 1, 0), list(2, 5, 1, 2, 1, 1, 0, 0, 0)), 2, nil},
		{"a plot is cut off from both states' pieces", land("0.0 .1. 0.0", list(4, 4, 0, 1, 1, 0, 4, 4, 0), list(4, 1, 4, 4, 1, 4, 0, 0, 0)), 4, list(0, 0, 0, 0, 1, 0, 0, 0, 0)},
		{"most houses", settle("0.1 ..."), 2000, nil},
		{"most houses, and a corner", settle("0.. ... ..1"), 2000, nil},
	} {
		owners, cut := drawn(t, x.l)
		if cut != x.fewest || x.owners != nil && !slices.Equal(owners, x.owners) {
			t.Error(x.what, owners, cut)
		}
	}
}

// P8.4: how many houses divisions cut.
func TestCost(t *testing.T) {
	great := settle("0......... .......... .......... .......... .......... .......... .......... .......... .......... .........1")
	board := make([]int, 100)
	for plot := range board {
		board[plot] = (plot + plot/10) % 2
	}
	board[99] = 1
	for _, x := range []struct {
		what   string
		l      enclave.Land
		owners []int
		cut    int
	}{
		{"the first two of example 3", row(), list(0, 0, 1, 1), 2},
		{"the first one of example 3", row(), list(0, 1, 1, 1), 4},
		{"the first three of example 3", row(), list(0, 0, 0, 1), 3},
		{"the first and the third one of example 3", row(), list(0, 1, 0, 1), 9},
		{"the first row of example 4", square(), list(0, 0, 1, 1), 3},
		{"the first column of example 4", square(), list(0, 1, 0, 1), 5},
		{"one plot of example 4", square(), list(0, 1, 1, 1), 4},
		{"three plots of example 4", square(), list(0, 0, 0, 1), 4},
		{"from the end of a row nobody looks to the next one", land("00 11", list(5, 0, 5, 0), list(1, 2, 0, 0)), list(0, 0, 1, 1), 3},
		{"no plot is disputed", land("01 01", list(5, 0, 6, 0), list(1, 2, 0, 0)), list(0, 1, 0, 1), 11},
		{"no houses", land("0.1", make([]int, 3), make([]int, 3)), list(0, 1, 1), 0},
		{"as many as there can be, but for two", great, board, 178000},
	} {
		if cut, e := enclave.Cost(x.l, x.owners); cut != x.cut || e != api.OK {
			t.Error(x.what, cut, e)
		}
	}
}

// P8.4: no division of small lands cuts fewer houses: all divisions, among them several that cut as few.
func TestDivideCutsFewest(t *testing.T) {
	r := rand.New(rand.NewSource(7))
	var ways [2]int // lands of which one division, or several ones, cut the fewest houses
	for range 3000 {
		l := anyLand(r, 24, 12, list(1, 3, 1000)[r.Intn(3)])
		_, cut := drawn(t, l)
		fewest, by := fewestCut(l)
		ways[count(by > 1)]++
		if cut != fewest {
			t.Error("another number of houses:", l, cut, fewest)
		}
	}
	if min(ways[0], ways[1]) < 500 {
		t.Error("too few lands of some kind were tried:", ways)
	}
}

// P8.4: Cost tells of all lists of small lands whether they are divisions, and what these cut.
func TestCostOfAnyOwners(t *testing.T) {
	r := rand.New(rand.NewSource(8))
	var are [2]int
	for range 20000 {
		l := anyLand(r, 30, 30, 1000)
		owners := slices.Clone(l.Owners)
		for plot, owner := range owners {
			if owner == none {
				owners[plot] = r.Intn(2)
			}
		}
		if r.Intn(3) == 0 {
			owners[r.Intn(len(owners))] = r.Intn(4) - 1
		}
		is := isDivision(l, owners)
		are[count(is)]++
		cut, e := enclave.Cost(l, owners)
		if is && (cut != cutBy(l, owners) || e != api.OK) || !is && (cut != 0 || e != api.ErrFalse) {
			t.Error(l, owners, cut, e)
		}
	}
	if min(are[0], are[1]) < 2000 {
		t.Error("too few owners of some kind were tried:", are)
	}
}

// P8.5: which walks there are, and how many families may go.
func TestProves(t *testing.T) {
	cross := land("0.1 10.", list(3, 2, 0, 2, 2, 0), list(2, 2, 0, 0, 0, 0))
	for _, x := range []struct {
		what  string
		l     enclave.Land
		walks []enclave.Walk
		n     int // -1 if they are none
	}{
		{"example 3", row(), []enclave.Walk{walk(2, 0, 1, 2, 3)}, 2},
		{"example 4", square(), []enclave.Walk{walk(2, 0, 1, 3), walk(1, 0, 2, 3)}, 3},
		{"as many families one by one", square(), []enclave.Walk{walk(1, 0, 1, 3), walk(1, 0, 2, 3), walk(1, 0, 1, 3)}, 3},
		{"fewer families than could go", square(), []enclave.Walk{walk(1, 0, 1, 3)}, 1},
		{"no walks", square(), nil, 0},
		{"one family more than houses", row(), []enclave.Walk{walk(3, 0, 1, 2, 3)}, -1},
		{"one family more than houses, in two walks", row(), []enclave.Walk{walk(2, 0, 1, 2, 3), walk(1, 0, 1, 2, 3)}, -1},
		{"there and back, and there again, by as many families as houses", square(), []enclave.Walk{walk(1, 0, 1, 0, 1, 3)}, 1},
		{"by one more", square(), []enclave.Walk{walk(1, 0, 1, 0, 1, 3), walk(1, 0, 1, 3)}, -1},
		{"by two families at once", square(), []enclave.Walk{walk(2, 0, 1, 0, 1, 3)}, -1},
		{"two walks meet, as many families as houses", cross, []enclave.Walk{walk(2, 0, 1, 2), walk(1, 4, 1, 0, 3)}, 3},
		{"two walks meet, as many families as houses, of the other one", cross, []enclave.Walk{walk(1, 0, 1, 2), walk(2, 4, 1, 0, 3)}, 3},
		{"two walks meet, and one more", cross, []enclave.Walk{walk(2, 0, 1, 2), walk(2, 4, 1, 0, 3)}, -1},
		{"two that do not meet", cross, []enclave.Walk{walk(2, 0, 3), walk(2, 4, 1, 2), walk(2, 4, 3)}, 6},
		{"over a plot of the second state, and on", cross, []enclave.Walk{walk(1, 0, 3, 4, 1, 2)}, 1},
		{"between plots without houses", land("0.1", list(1, 0, 0), make([]int, 3)), []enclave.Walk{walk(1, 0, 1, 2)}, -1},
		{"from a disputed plot", row(), []enclave.Walk{walk(1, 1, 2, 3)}, -1},
		{"to a disputed plot", row(), []enclave.Walk{walk(1, 0, 1, 2)}, -1},
		{"from the second state to the first", row(), []enclave.Walk{walk(1, 3, 2, 1, 0)}, -1},
		{"from the first state to itself", cross, []enclave.Walk{walk(1, 0, 1, 4)}, -1},
		{"from the second state to itself", cross, []enclave.Walk{walk(1, 3, 4, 1, 2)}, -1},
		{"one plot of the first state", row(), []enclave.Walk{walk(1, 0)}, -1},
		{"one plot of the second state", row(), []enclave.Walk{walk(1, 3)}, -1},
		{"one disputed plot", row(), []enclave.Walk{walk(1, 1)}, -1},
		{"no plots", row(), []enclave.Walk{walk(1)}, -1},
		{"it leaves out a plot", row(), []enclave.Walk{walk(1, 0, 1, 3)}, -1},
		{"it stays on its plot", row(), []enclave.Walk{walk(1, 0, 1, 1, 2, 3)}, -1},
		{"over a corner", square(), []enclave.Walk{walk(1, 0, 3)}, -1},
		{"from the end of a row to the start of the next one", land("00 11", list(5, 0, 5, 0), list(1, 2, 0, 0)), []enclave.Walk{walk(1, 1, 2)}, -1},
		{"a walk, and one that is none", square(), []enclave.Walk{walk(1, 0, 1, 3), walk(1, 0, 3)}, -1},
	} {
		families, are := provenBy(x.l, x.walks)
		n, e := enclave.Proves(x.l, x.walks)
		if x.n < 0 && (n != 0 || e != api.ErrFalse || are) || x.n >= 0 && (n != x.n || e != api.OK || !are || families != n) {
			t.Error(x.what, n, e, families, are)
		}
	}
}

// stroll returns a list that is often a walk of a land.
func stroll(r *rand.Rand, l enclave.Land) []int {
	at := r.Intn(len(l.Owners))
	for range 20 * count(l.Owners[at] != 0) {
		if at = r.Intn(len(l.Owners)); l.Owners[at] == 0 {
			break
		}
	}
	plots := list(at)
	for len(plots) < 100 && (l.Owners[at] != 1 || r.Intn(4) == 0) {
		next := at + list(-l.Wide, -1, 1, l.Wide)[r.Intn(4)]
		if next < 0 || next >= len(l.Owners) || apart(l.Wide, at, next) != 1 {
			continue
		}
		if len(plots) > 1 && next == plots[len(plots)-2] && r.Intn(4) > 0 {
			if r.Intn(8) == 0 {
				break
			}
			continue
		}
		plots, at = append(plots, next), next
	}
	if r.Intn(30) == 0 {
		plots[r.Intn(len(plots))] = r.Intn(len(l.Owners))
	}
	return plots
}

// P8.5: Proves tells of any lists whether they are walks, and of how many families.
func TestProvesOfAnyWalks(t *testing.T) {
	r := rand.New(rand.NewSource(9))
	var are [2]int
	both := 0
	for range 20000 {
		l := anyLand(r, 24, 24, list(3, 20, 1000)[r.Intn(3)])
		var walks []enclave.Walk
		for range r.Intn(6) {
			walks = append(walks, walk(1+r.Intn(list(2, 500)[r.Intn(2)]), stroll(r, l)...))
		}
		families, is := provenBy(l, walks)
		n, e := enclave.Proves(l, walks)
		if is && (n != families || e != api.OK) || !is && (n != 0 || e != api.ErrFalse) {
			t.Error(l, walks, n, e)
		}
		are[count(is)]++
		both += count(is && goBothWays(walks))
	}
	if min(are[0], are[1]) < 2000 || both < 100 {
		t.Error("too few walks of some kind were tried:", are, both)
	}
}

// goBothWays reports whether walks go from some plot to another one, and from that one to it.
func goBothWays(walks []enclave.Walk) bool {
	gone := map[[2]int]bool{}
	for _, w := range walks {
		for i := 1; i < len(w.Plots); i++ {
			gone[[2]int{w.Plots[i-1], w.Plots[i]}] = true
		}
	}
	for pair := range gone {
		if gone[[2]int{pair[1], pair[0]}] {
			return true
		}
	}
	return false
}

// P8.5: each side may be passed by just as many families as there are houses: a family more at any side is refused.
func TestFamiliesAtEachSide(t *testing.T) {
	r := rand.New(rand.NewSource(10))
	tried := 0
	for range 2000 {
		l := anyLand(r, 40, 40, 5)
		walks, _ := enclave.Walks(l)
		for _, w := range walks {
			i := 1 + r.Intn(len(w.Plots)-1)
			a, b := min(w.Plots[i-1], w.Plots[i]), max(w.Plots[i-1], w.Plots[i])
			passed := 0
			for _, other := range walks {
				for k := 1; k < len(other.Plots); k++ {
					if min(other.Plots[k-1], other.Plots[k]) == a && max(other.Plots[k-1], other.Plots[k]) == b {
						passed += other.Many
					}
				}
			}
			tight := copyLand(l)
			houses := &tight.South[a]
			if b == a+1 && l.Wide > 1 {
				houses = &tight.East[a]
			}
			*houses = passed
			if _, e := enclave.Proves(tight, walks); e != api.OK {
				t.Error("as many families as houses:", tight, walks, e)
			}
			*houses = passed - 1
			if _, e := enclave.Proves(tight, walks); e != api.ErrFalse {
				t.Error("one family more than houses:", tight, walks, e)
			}
			tried++
		}
	}
	if tried < 1000 {
		t.Error("too few sides were tried:", tried)
	}
}
