package sheet_test

import (
	"math/big"
	"slices"

	"limitrophe/api"
	"limitrophe/sheet"
)

// exact returns a fraction that can be reckoned with, and lowest one in lowest terms.
func exact(r api.Ratio) *big.Rat { return big.NewRat(int64(r.N), int64(r.D)) }
func lowest(r *big.Rat) api.Ratio {
	return ratio(int(r.Num().Int64()), int(r.Denom().Int64()))
}

// isLess reports whether a fraction is less than another one.
func isLess(a, b api.Ratio) bool { return exact(a).Cmp(exact(b)) < 0 }

// plus returns the sum of two fractions, in lowest terms.
func plus(a, b api.Ratio) api.Ratio { return lowest(new(big.Rat).Add(exact(a), exact(b))) }

// greater returns the greater one of two fractions.
func greater(a, b *big.Rat) *big.Rat {
	if a.Cmp(b) > 0 {
		return a
	}
	return b
}

// endsOf returns the sheets at which a leg begins and ends.
func endsOf(s sheet.Set, l sheet.Leg) (from, to int) {
	j := s.Joints[l.Joint]
	if l.Back {
		return j.B, j.A
	}
	return j.A, j.B
}

// saidOf returns by how much the shift at the end of a leg is greater than that where it begins, to the east or to the north.
func saidOf(s sheet.Set, north bool, l sheet.Leg) int {
	by := s.Joints[l.Joint].X
	if north {
		by = s.Joints[l.Joint].Y
	}
	if l.Back {
		return -by
	}
	return by
}

// tiedByWalks goes from each sheet to all sheets that it can come to, and returns the least one of them.
func tiedByWalks(s sheet.Set) []int {
	tied := make([]int, s.Sheets)
	for first := range tied {
		came := []int{first}
		for i := 0; i < len(came); i++ {
			for _, l := range legsFrom(s, came[i]) {
				if _, to := endsOf(s, l); !slices.Contains(came, to) {
					came = append(came, to)
				}
			}
		}
		tied[first] = slices.Min(came)
	}
	return tied
}

// neededBy returns the play that shifts need, word by word.
func neededBy(s sheet.Set, shifts []sheet.Shift) api.Ratio {
	most := new(big.Rat)
	differ := func(from, to api.Ratio, by int) {
		d := new(big.Rat).Sub(exact(to), exact(from))
		d.Sub(d, exact(whole(by)))
		most = greater(most, d.Abs(d))
	}
	for _, j := range s.Joints {
		differ(shifts[j.A].X, shifts[j.B].X, j.X)
		differ(shifts[j.A].Y, shifts[j.B].Y, j.Y)
	}
	return lowest(most)
}

// isRound reports whether legs that have joints of a set are a round, word by word.
func isRound(s sheet.Set, l []sheet.Leg) bool {
	for i := range l {
		from, _ := endsOf(s, l[i])
		_, before := endsOf(s, l[(i+len(l)-1)%len(l)])
		if from != before {
			return false
		}
	}
	return true
}

// provedBy returns what a round proves, word by word.
func provedBy(s sheet.Set, r sheet.Round) api.Ratio {
	sum := 0
	for _, l := range r.Legs {
		sum += saidOf(s, r.North, l)
	}
	return lowest(big.NewRat(int64(max(sum, -sum)), int64(len(r.Legs))))
}

// playOfRounds tries all rounds that go through no sheet twice, and returns the most that one proves; and how many there are.
func playOfRounds(s sheet.Set) (api.Ratio, int) {
	most, tried := whole(0), 0
	var met [12]bool
	var goOn func(first, at int, walk []sheet.Leg)
	goOn = func(first, at int, walk []sheet.Leg) {
		for _, l := range legsFrom(s, at) {
			_, to := endsOf(s, l)
			longer := append(slices.Clip(walk), l)
			if to == first {
				tried++
				for _, north := range []bool{false, true} {
					if p := provedBy(s, sheet.Round{North: north, Legs: longer}); isLess(most, p) {
						most = p
					}
				}
			}
			if to > first && !met[to] {
				met[to] = true
				goOn(first, to, longer)
				met[to] = false
			}
		}
	}
	for first := range s.Sheets {
		goOn(first, first, nil)
	}
	return most, tried
}

// playOfShifts tries all shifts of up to a size to one side that are multiples of 1 by d, and returns the least play that any
// of them need that way. The first sheet has the shift 0.
func playOfShifts(s sheet.Set, north bool, size, d int) api.Ratio {
	least := -1
	at := make([]int, s.Sheets)
	var place func(sheet, needed int)
	place = func(next, needed int) {
		if least >= 0 && needed >= least {
			return
		}
		if next == s.Sheets {
			least = needed
			return
		}
		reach := size * d
		if next == 0 {
			reach = 0
		}
		for at[next] = -reach; at[next] <= reach; at[next]++ {
			needs := needed
			for number, j := range s.Joints {
				if max(j.A, j.B) == next {
					by := at[j.B] - at[j.A] - d*saidOf(s, north, sheet.Leg{Joint: number})
					needs = max(needs, by, -by)
				}
			}
			place(next+1, needs)
		}
	}
	place(0, 0)
	return lowest(big.NewRat(int64(least), int64(d)))
}

// boundsOfShifts tries all shifts one way of up to a size that are multiples of 1 by the D of a play and need at most that
// play, and returns by how much the shift of b is greater than that of a, at least and at most. What is tied with a counts
// alone, and a has the shift 0.
func boundsOfShifts(s sheet.Set, north bool, a, b int, play api.Ratio, size int) sheet.Bounds {
	tied := tiedByWalks(s)
	var order []int
	for next := range s.Sheets {
		if tied[next] == tied[a] && next != a {
			order = append(order, next)
		}
	}
	at, placed := make([]int, s.Sheets), make([]bool, s.Sheets)
	placed[a] = true
	fits := func() bool {
		for number, j := range s.Joints {
			by := at[j.B] - at[j.A] - play.D*saidOf(s, north, sheet.Leg{Joint: number})
			if placed[j.A] && placed[j.B] && max(by, -by) > play.N {
				return false
			}
		}
		return true
	}
	var found []int
	var place func(number int)
	place = func(number int) {
		if number == len(order) {
			found = append(found, at[b])
			return
		}
		next := order[number]
		placed[next] = true
		for at[next] = -size * play.D; at[next] <= size*play.D; at[next]++ {
			if fits() {
				place(number + 1)
			}
		}
		placed[next] = false
	}
	place(0)
	part := func(n int) api.Ratio { return lowest(big.NewRat(int64(n), int64(play.D))) }
	return sheet.Bounds{Lo: part(slices.Min(found)), Hi: part(slices.Max(found))}
}

// boundsOfWalks tries all walks from a to b that go to no sheet twice, each leg of which says by how much shifts differ at
// most: by what its joint says, and the play; and at least: less the play.
func boundsOfWalks(s sheet.Set, north bool, a, b int, play api.Ratio) sheet.Bounds {
	var lo, hi *big.Rat
	var met [12]bool
	var goOn func(at, said, many int)
	goOn = func(at, said, many int) {
		if at == b {
			slack := new(big.Rat).Mul(exact(whole(many)), exact(play))
			most := new(big.Rat).Add(exact(whole(said)), slack)
			least := new(big.Rat).Sub(exact(whole(said)), slack)
			if hi == nil || most.Cmp(hi) < 0 {
				hi = most
			}
			if lo == nil || least.Cmp(lo) > 0 {
				lo = least
			}
			return
		}
		met[at] = true
		for _, l := range legsFrom(s, at) {
			if _, to := endsOf(s, l); !met[to] {
				goOn(to, said+saidOf(s, north, l), many+1)
			}
		}
		met[at] = false
	}
	goOn(a, 0, 0)
	return sheet.Bounds{Lo: lowest(lo), Hi: lowest(hi)}
}

// areSame reports whether two marks can be the same, word by word.
func areSame(a, b []sheet.Mark, play int, p sheet.Pair) bool {
	one, other := a[p.A], b[p.B]
	return one.Kind == other.Kind && one.At-other.At <= play && other.At-one.At <= play
}

// allSame returns all pairs of marks that can be the same.
func allSame(a, b []sheet.Mark, play int) []sheet.Pair {
	var all []sheet.Pair
	for i := range a {
		for k := range b {
			if p := (sheet.Pair{A: i, B: k}); areSame(a, b, play, p) {
				all = append(all, p)
			}
		}
	}
	return all
}

// isMatch reports whether a list of pairs that have marks is a match, word by word.
func isMatch(a, b []sheet.Mark, play int, list []sheet.Pair) bool {
	for i, p := range list {
		if !areSame(a, b, play, p) || i > 0 && (p.A <= list[i-1].A || p.B <= list[i-1].B) {
			return false
		}
	}
	return true
}

// mostPairs tries all matches, and returns how many pairs one has at most; and how many matches there are.
func mostPairs(a, b []sheet.Mark, play int) (most, tried int) {
	all := allSame(a, b, play)
	var goOn func(last sheet.Pair, many int)
	goOn = func(last sheet.Pair, many int) {
		tried++
		most = max(most, many)
		for _, p := range all {
			if p.A > last.A && p.B > last.B {
				goOn(p, many+1)
			}
		}
	}
	goOn(sheet.Pair{A: -1, B: -1}, 0)
	return most, tried
}

// areLevels reports whether numbers that are allowed are levels, word by word.
func areLevels(a, b []sheet.Mark, play int, levels [][]int) bool {
	for i := range a {
		for k := range b {
			if areSame(a, b, play, sheet.Pair{A: i, B: k}) != (levels[i][k] > 0) {
				return false
			}
		}
	}
	all := allSame(a, b, play)
	for _, p := range all {
		for _, q := range all {
			if p.A > q.A && p.B > q.B && levels[p.A][p.B] == levels[q.A][q.B] {
				return false
			}
		}
	}
	return true
}

// highest returns the greatest number of all rows, 0 if there is none above.
func highest(rows [][]int) int { return slices.Max(append(slices.Concat(rows...), 0)) }
