package sheet_test

import (
	"math/rand"
	"slices"
	"testing"

	"limitrophe/api"
	"limitrophe/sheet"
)

// ratio makes a fraction, and whole one that is a whole number.
func ratio(n, d int) api.Ratio { return api.Ratio{N: n, D: d} }
func whole(n int) api.Ratio    { return ratio(n, 1) }

// joint makes a joint, and set a set of joints.
func joint(a, b, x, y int) sheet.Joint { return sheet.Joint{A: a, B: b, X: x, Y: y} }
func set(sheets int, joints ...sheet.Joint) sheet.Set {
	return sheet.Set{Sheets: sheets, Joints: joints}
}

// three is the set of example 1, and ring that of example 3.
func three() sheet.Set { return set(3, joint(0, 1, 10, 0), joint(1, 2, 20, 0), joint(0, 2, 36, 0)) }
func ring() sheet.Set {
	return set(4, joint(0, 1, 1, 0), joint(1, 2, 1, 0), joint(2, 3, 1, 0), joint(3, 0, 1, 0))
}

// eastward makes shifts to the east alone.
func eastward(shifts ...api.Ratio) []sheet.Shift {
	var all []sheet.Shift
	for _, x := range shifts {
		all = append(all, sheet.Shift{X: x, Y: whole(0)})
	}
	return all
}

// wholes makes shifts to the east by whole numbers.
func wholes(shifts ...int) []sheet.Shift {
	var all []api.Ratio
	for _, n := range shifts {
		all = append(all, whole(n))
	}
	return eastward(all...)
}

// legs makes legs: the number n is the joint n-1, and -n is that one back.
func legs(numbers ...int) []sheet.Leg {
	var all []sheet.Leg
	for _, n := range numbers {
		all = append(all, sheet.Leg{Joint: max(n, -n) - 1, Back: n < 0})
	}
	return all
}

// round makes one to the east of such legs, and northern one to the north.
func round(numbers ...int) sheet.Round { return sheet.Round{Legs: legs(numbers...)} }
func northern(numbers ...int) sheet.Round {
	return sheet.Round{North: true, Legs: legs(numbers...)}
}

// bounds makes bounds that are whole numbers, and still are those of what cannot differ.
func bounds(lo, hi int) sheet.Bounds { return sheet.Bounds{Lo: whole(lo), Hi: whole(hi)} }

// marks makes marks of places and kinds in turn, and pairs makes pairs of numbers.
func marks(numbers ...int) []sheet.Mark {
	var all []sheet.Mark
	for i := 0; i+1 < len(numbers); i += 2 {
		all = append(all, sheet.Mark{At: numbers[i], Kind: numbers[i+1]})
	}
	return all
}
func pairs(numbers ...int) []sheet.Pair {
	var all []sheet.Pair
	for i := 0; i+1 < len(numbers); i += 2 {
		all = append(all, sheet.Pair{A: numbers[i], B: numbers[i+1]})
	}
	return all
}

// edge and facing have the marks of example 4, and evenly makes so many marks of one kind, a step apart.
func edge() []sheet.Mark   { return marks(0, 1, 10, 2, 20, 1) }
func facing() []sheet.Mark { return marks(1, 2, 9, 1, 12, 2) }
func evenly(many, step, kind int) []sheet.Mark {
	var all []sheet.Mark
	for i := range many {
		all = append(all, sheet.Mark{At: i * step, Kind: kind})
	}
	return all
}

// rows has the same number for each two of so many marks.
func rows(a, b, level int) [][]int {
	var all [][]int
	for range a {
		all = append(all, slices.Repeat([]int{level}, b))
	}
	return all
}

// copySet and copyRows return copies that share no memory.
func copySet(s sheet.Set) sheet.Set {
	return sheet.Set{Sheets: s.Sheets, Joints: slices.Clone(s.Joints)}
}
func copyRows(rows [][]int) [][]int {
	rows = slices.Clone(rows)
	for i := range rows {
		rows[i] = slices.Clone(rows[i])
	}
	return rows
}

// with returns a set with joints more.
func with(s sheet.Set, joints ...sheet.Joint) sheet.Set {
	return sheet.Set{Sheets: s.Sheets, Joints: slices.Concat(s.Joints, joints)}
}

// count is 1 of what is so, and 0 of what is not.
func count(is bool) int {
	if is {
		return 1
	}
	return 0
}

// expect reports an error that is not the one wanted.
func expect(t *testing.T, what string, got, want api.Errno) {
	t.Helper()
	if got != want {
		t.Errorf("%s: error %d, not %d", what, got, want)
	}
}

// anyWithin returns a number from -size to size, one at the ends or 0 more often.
func anyWithin(r *rand.Rand, size int) int {
	switch r.Intn(8) {
	case 0:
		return size
	case 1:
		return -size
	case 2:
		return 0
	}
	return r.Intn(2*size+1) - size
}

// anyTwo returns two of so many sheets, at least two.
func anyTwo(r *rand.Rand, sheets int) (a, b int) {
	a, b = r.Intn(sheets), r.Intn(sheets-1)
	if b >= a {
		b++
	}
	return a, b
}

// anyEnds returns two sheets between which there can be a joint: any two, two of four in a row, or often the first two.
func anyEnds(r *rand.Rand, sheets, kind int) (a, b int) {
	a, b = anyTwo(r, sheets)
	switch {
	case kind == 1:
		for a/4 != b/4 {
			a, b = anyTwo(r, sheets)
		}
	case kind == 2 && r.Intn(2) == 0:
		a, b = 0, 1
	}
	if r.Intn(2) == 0 {
		a, b = b, a
	}
	return a, b
}

// anySet returns a set of up to so many sheets and joints, which say up to so much: anything, what is true of some shifts, or
// nearly so.
func anySet(r *rand.Rand, sheets, joints, size int) sheet.Set {
	s := set(1 + r.Intn(sheets))
	if r.Intn(4) == 0 {
		s.Sheets = sheets
	}
	many := r.Intn(joints + 1)
	if r.Intn(3) == 0 {
		many = joints
	}
	tying, saying, play := r.Intn(5), r.Intn(4), 1+r.Intn(min(size, 20))
	var truth [12][2]int
	for sheet := range s.Sheets {
		truth[sheet] = [2]int{anyWithin(r, size/2), anyWithin(r, size/2)}
	}
	if tying == 0 { // a ring, and little more
		many = min(many, s.Sheets+r.Intn(2))
	}
	for number := range many * min(1, s.Sheets-1) {
		a, b := anyEnds(r, s.Sheets, tying)
		if tying == 0 && number < s.Sheets {
			a, b = number, (number+1)%s.Sheets
		}
		j := joint(a, b, anyWithin(r, size), anyWithin(r, size))
		if saying > 1 {
			j.X, j.Y = truth[b][0]-truth[a][0], truth[b][1]-truth[a][1]
		}
		if saying > 2 {
			j.X = max(-size, min(size, j.X+anyWithin(r, play)))
			j.Y = max(-size, min(size, j.Y+anyWithin(r, play)))
		}
		s.Joints = append(s.Joints, j)
	}
	return s
}

// anySize returns how much joints say at most: little, more, or as much as they can.
func anySize(r *rand.Rand) int { return []int{1, 3, 20, 1000, 1000000}[r.Intn(5)] }

// anyShifts returns shifts of so many sheets, of up to a size, most of which are no whole numbers.
func anyShifts(r *rand.Rand, sheets, size int) []sheet.Shift {
	part := func() api.Ratio { return ratio(anyWithin(r, size), 1+r.Intn([]int{1, 6, 1000}[r.Intn(3)])) }
	shifts := make([]sheet.Shift, sheets)
	for i := range shifts {
		shifts[i] = sheet.Shift{X: part(), Y: part()}
	}
	return shifts
}

// legsFrom returns all legs that begin at a sheet.
func legsFrom(s sheet.Set, at int) []sheet.Leg {
	var all []sheet.Leg
	for number, j := range s.Joints {
		if j.A == at {
			all = append(all, sheet.Leg{Joint: number})
		}
		if j.B == at {
			all = append(all, sheet.Leg{Joint: number, Back: true})
		}
	}
	return all
}

// anyRound returns a round of a set, and whether it has found one: it goes on until it is back, or for too long.
func anyRound(r *rand.Rand, s sheet.Set) (sheet.Round, bool) {
	first := r.Intn(s.Sheets)
	made := sheet.Round{North: r.Intn(2) == 0}
	at, fewest := first, r.Intn(30)
	for len(made.Legs) < 60 {
		next := legsFrom(s, at)
		if len(next) == 0 {
			break
		}
		leg := next[r.Intn(len(next))]
		_, at = endsOf(s, leg)
		made.Legs = append(made.Legs, leg)
		if at == first && len(made.Legs) >= fewest {
			return made, true
		}
	}
	return made, false
}

// anyMarks returns up to so many marks of up to so many kinds, up to so far apart.
func anyMarks(r *rand.Rand, most, kinds, apart int) []sheet.Mark {
	many := r.Intn(most + 1)
	if r.Intn(4) == 0 {
		many = most
	}
	at := anyWithin(r, apart)
	var all []sheet.Mark
	for range many {
		all = append(all, sheet.Mark{At: at, Kind: r.Intn(kinds)})
		at += 1 + r.Intn(apart)
	}
	return all
}

// copiedMarks returns marks that are nearly those of an edge: some are moved, some are missing.
func copiedMarks(r *rand.Rand, edge []sheet.Mark, by int) []sheet.Mark {
	var all []sheet.Mark
	for _, m := range edge {
		m.At += anyWithin(r, by)
		if r.Intn(5) > 0 && (len(all) == 0 || m.At > all[len(all)-1].At) {
			all = append(all, m)
		}
	}
	return all
}

// anyEdges returns two edges, and a play.
func anyEdges(r *rand.Rand, most int) (a, b []sheet.Mark, play int) {
	kinds, apart := []int{1, 2, 5, 21}[r.Intn(4)], []int{1, 4, 30, 30000}[r.Intn(4)]
	a, b = anyMarks(r, most, kinds, apart), anyMarks(r, most, kinds, apart)
	if r.Intn(3) == 0 {
		b = copiedMarks(r, a, apart)
	}
	play = r.Intn(apart * []int{1, 2, 10}[r.Intn(3)])
	if r.Intn(8) == 0 {
		play = []int{0, 1000000}[r.Intn(2)]
	}
	return a, b, play
}

// anyPairs returns pairs of which most can be a match of two edges with marks.
func anyPairs(r *rand.Rand, a, b []sheet.Mark, play int) []sheet.Pair {
	var list []sheet.Pair
	tidy := r.Intn(4) > 0
	next := sheet.Pair{}
	for range r.Intn(8) {
		p := sheet.Pair{A: next.A + r.Intn(3), B: next.B + r.Intn(3)}
		if p.A >= len(a) || p.B >= len(b) {
			break
		}
		if tidy && !areSame(a, b, play, p) {
			continue
		}
		list = append(list, p)
		next = sheet.Pair{A: p.A + count(r.Intn(9) > 0), B: p.B + count(r.Intn(9) > 0)}
	}
	return list
}

// anyLevels returns numbers of which most are levels of two edges.
func anyLevels(r *rand.Rand, a, b []sheet.Mark, play int) [][]int {
	levels, _ := sheet.Levels(a, b, play)
	for kind := r.Intn(3); kind < 2; kind++ {
		if len(a) == 0 || len(b) == 0 {
			break
		}
		at := sheet.Pair{A: r.Intn(len(a)), B: r.Intn(len(b))}
		if areSame(a, b, play, at) || r.Intn(6) == 0 {
			levels[at.A][at.B] = r.Intn(4 + 27*r.Intn(2))
		}
	}
	return levels
}
