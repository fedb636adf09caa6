package sheet

import (
	"iter"
	"maps"
	"slices"
)

// edges are two with valid marks, and with a play.
type edges struct {
	a, b []Mark
	play int
}

// canBeSame reports whether two marks can be the same.
func (e edges) canBeSame(p Pair) bool {
	a, b := e.a[p.A], e.b[p.B]
	return a.Kind == b.Kind && between(a.At-b.At, -e.play, e.play)
}

// pairs yields all pairs of marks.
func (e edges) pairs() iter.Seq[Pair] {
	return func(yield func(Pair) bool) {
		for a := range e.a {
			for b := range e.b {
				if !yield(Pair{A: a, B: b}) {
					return
				}
			}
		}
	}
}

// isBefore reports whether both numbers of a pair are less than those of another one.
func (p Pair) isBefore(q Pair) bool { return p.A < q.A && p.B < q.B }

// isMatch reports whether a list is a match.
func (e edges) isMatch(list []Pair) bool {
	for i := 1; i < len(list); i++ {
		if !list[i-1].isBefore(list[i]) {
			return false
		}
	}
	return every(list, e.canBeSame)
}

// levels returns for each pair that can be the same of how many pairs a match is at most that it ends.
func (e edges) levels() map[Pair]int {
	levels := map[Pair]int{}
	var most [MaxMarks + 1][MaxMarks + 1]int // of how many pairs a match of the first marks is at most
	for p := range e.pairs() {
		so := max(most[p.A][p.B+1], most[p.A+1][p.B])
		if e.canBeSame(p) { // which is no less: a mark more is one pair more at most
			so = most[p.A][p.B] + 1
			levels[p] = so
		}
		most[p.A+1][p.B+1] = so
	}
	return levels
}

// match returns a match of the most pairs. It is found from its last pair on: before a pair of some level there is always
// one of the next lower level.
func (e edges) match() []Pair {
	levels := e.levels()
	last := Pair{A: len(e.a), B: len(e.b)}
	var found []Pair
	for level := highest(maps.Values(levels)); level > 0; level-- {
		for p := range e.pairs() {
			if p.isBefore(last) && levels[p] == level {
				last = p
				break
			}
		}
		found = append(found, last)
	}
	return turned(found)
}

// turned returns a list of pairs that begins with the last one.
func turned(list []Pair) []Pair {
	turned := slices.Clone(list)
	slices.Reverse(turned)
	return turned
}

// table returns the levels of all pairs.
func (e edges) table() [][]int {
	levels := e.levels()
	rows := make([][]int, len(e.a))
	for a := range rows {
		rows[a] = make([]int, len(e.b))
		for b := range rows[a] {
			rows[a][b] = levels[Pair{A: a, B: b}]
		}
	}
	return rows
}

// areLevels reports whether numbers are levels, if there is one for each pair.
func (e edges) areLevels(levels [][]int) bool {
	level := func(p Pair) int { return levels[p.A][p.B] }
	var above []Pair
	for p := range e.pairs() {
		if (level(p) > 0) != e.canBeSame(p) {
			return false
		}
		if level(p) > 0 {
			above = append(above, p)
		}
	}
	for number, p := range above {
		clashes := func(q Pair) bool { return p.isBefore(q) && level(p) == level(q) }
		if slices.ContainsFunc(above[number+1:], clashes) {
			return false
		}
	}
	return true
}

// highest returns the greatest of levels, 0 if there are none.
func highest(levels iter.Seq[int]) int {
	top := 0
	for level := range levels {
		top = max(top, level)
	}
	return top
}
