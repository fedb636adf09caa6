package enclave_test

import (
	"math/rand"
	"slices"
	"strings"
	"testing"

	"limitrophe/api"
	"limitrophe/enclave"
)

// none is no region, and the owner of a disputed plot.
const none = -1

// list makes a list, and walk a walk.
func list(n ...int) []int { return n }
func walk(many int, plots ...int) enclave.Walk {
	return enclave.Walk{Plots: plots, Many: many}
}

// plan makes a map of rows of states; a point is a disputed plot of a land.
func plan(rows string) enclave.Map {
	m := enclave.Map{Wide: strings.IndexByte(rows+" ", ' ')}
	for _, sign := range strings.ReplaceAll(rows, " ", "") {
		owner := int(sign - '0')
		if sign == '.' {
			owner = none
		}
		m.Owners = append(m.Owners, owner)
	}
	return m
}

// Maps of the chapter's examples 1 and 2.
const (
	ringed = "00000 01110 01010 01110 00000"
	gapped = "00000 01210 01010 01110 00000"
)

// nested has five rings, each within the one before.
const nested = "0000000000 0111111110 0122222210 0123333210 0123443210 0123443210 0123333210 0122222210 0111111110 0000000000"

// land makes a land of rows of states, with numbers of houses that look to the east and to the south.
func land(rows string, east, south []int) enclave.Land {
	m := plan(rows)
	return enclave.Land{Wide: m.Wide, Owners: m.Owners, East: east, South: south}
}

// row is the land of example 3, and square that of example 4.
func row() enclave.Land    { return land("0..1", list(4, 2, 3, 0), make([]int, 4)) }
func square() enclave.Land { return land("0. .1", list(3, 0, 2, 0), list(1, 2, 0, 0)) }

// settle returns a land of rows of states in which as many houses as there can be look to each neighbour.
func settle(rows string) enclave.Land {
	m := plan(rows)
	l := enclave.Land{Wide: m.Wide, Owners: m.Owners, East: make([]int, len(m.Owners)), South: make([]int, len(m.Owners))}
	for plot := range m.Owners {
		if plot%m.Wide+1 < m.Wide {
			l.East[plot] = 1000
		}
		if plot+m.Wide < len(m.Owners) {
			l.South[plot] = 1000
		}
	}
	return l
}

// copyMap, copyLand and copyWalks return copies that share no memory.
func copyMap(m enclave.Map) enclave.Map {
	return enclave.Map{Wide: m.Wide, Owners: slices.Clone(m.Owners)}
}
func copyLand(l enclave.Land) enclave.Land {
	return enclave.Land{Wide: l.Wide, Owners: slices.Clone(l.Owners), East: slices.Clone(l.East), South: slices.Clone(l.South)}
}
func copyWalks(walks []enclave.Walk) []enclave.Walk {
	walks = slices.Clone(walks)
	for i := range walks {
		walks[i].Plots = slices.Clone(walks[i].Plots)
	}
	return walks
}

// sameMap reports whether two maps are the same one.
func sameMap(a, b enclave.Map) bool { return a.Wide == b.Wide && slices.Equal(a.Owners, b.Owners) }

// count is 1 of what is so, and 0 of what is not.
func count(is bool) int {
	if is {
		return 1
	}
	return 0
}

// expect reports an error that is not the one wanted.
func expect(t *testing.T, what string, got, want api.Errno) {
	t.Helper()
	if got != want {
		t.Errorf("%s: error %d, not %d", what, got, want)
	}
}

// anySize returns how wide and how high something of at most so many plots is.
func anySize(r *rand.Rand, most int) (wide, high int) {
	wide = 1 + r.Intn(12)
	return min(wide, most), 1 + r.Intn(max(1, min(12, most/wide)))
}

// anyMap returns a map of up to so many plots: rectangles are painted on it, or the rims of some, or plots one by one.
func anyMap(r *rand.Rand, most int) enclave.Map {
	wide, high := anySize(r, most)
	m := enclave.Map{Wide: wide, Owners: make([]int, wide*high)}
	states := 2 + r.Intn(4)
	for range r.Intn(9) {
		paint(r, m, r.Intn(states), r.Intn(2) == 0)
	}
	for range r.Intn(4) * r.Intn(len(m.Owners)+1) / 4 {
		m.Owners[r.Intn(len(m.Owners))] = r.Intn(states)
	}
	return m
}

// paint gives a rectangle, or its rim alone, to a state.
func paint(r *rand.Rand, m enclave.Map, owner int, whole bool) {
	high := len(m.Owners) / m.Wide
	left, top := r.Intn(m.Wide), r.Intn(high)
	right, bottom := left+r.Intn(m.Wide-left), top+r.Intn(high-top)
	for y := top; y <= bottom; y++ {
		for x := left; x <= right; x++ {
			if whole || x == left || x == right || y == top || y == bottom {
				m.Owners[y*m.Wide+x] = owner
			}
		}
	}
}

// anyRings returns a map of many rings, some plots of which belong to any state.
func anyRings(r *rand.Rand) enclave.Map {
	m := plan(nested)
	for range r.Intn(12) {
		m.Owners[r.Intn(100)] = r.Intn(6)
	}
	if r.Intn(2) == 0 {
		for plot, owner := range m.Owners {
			m.Owners[plot] = owner % 2
		}
	}
	return m
}

// anyLand returns a land of up to so many plots, of which up to so many are disputed, with up to so many houses at a side.
func anyLand(r *rand.Rand, most, disputed, houses int) enclave.Land {
	wide, high := anySize(r, most)
	if wide*high < 2 {
		high, wide = 1, 2
	}
	plots := wide * high
	l := enclave.Land{Wide: wide, Owners: make([]int, plots), East: make([]int, plots), South: make([]int, plots)}
	for plot := range plots {
		l.Owners[plot] = r.Intn(2)
		if plot%wide+1 < wide {
			l.East[plot] = r.Intn(houses + 1)
		}
		if plot+wide < plots {
			l.South[plot] = r.Intn(houses + 1)
		}
	}
	for range r.Intn(disputed + 1) {
		l.Owners[r.Intn(plots)] = none
	}
	zero, one := r.Intn(plots), r.Intn(plots-1)
	if one >= zero {
		one++
	}
	l.Owners[zero], l.Owners[one] = 0, 1
	return l
}

// greatLand returns a land with many disputed plots, the houses of which are of one of several kinds.
func greatLand(r *rand.Rand) enclave.Land {
	l := anyLand(r, 100, 400, list(1, 3, 40, 1000)[r.Intn(4)])
	if r.Intn(4) == 0 {
		for _, numbers := range [][]int{l.East, l.South} {
			for plot, n := range numbers {
				numbers[plot] = min(1, n) * list(1, 999, 1000)[r.Intn(3)]
			}
		}
	}
	return l
}
