package sheet

import (
	"iter"
	"math"

	"limitrophe/api"
)

// reach is how far walks of a number of legs lead from a sheet to another one.
type reach struct {
	is   bool // whether there is such a walk at all
	far  int  // by how much the shift there is greater at least, in parts of the play
	last Leg  // the last leg of the walk that says so
}

// chart is a valid set at work, of which one way counts, with a play: to the east, or to the north.
type chart struct {
	Set
	of    func(Joint) int // by how much a joint says that shifts differ that way
	play  api.Ratio
	apart [MaxSheets + 1][MaxSheets]reach // for each number of legs, from the sheet at which it set out to each one
}

// chartOf puts a valid set to work with a play.
func chartOf(s Set, north bool, play api.Ratio) *chart {
	c := &chart{Set: s, of: func(j Joint) int { return j.X }, play: play}
	if north {
		c.of = func(j Joint) int { return j.Y }
	}
	return c
}

// ends returns the sheet at which a leg begins, and the one at which it ends.
func (s Set) ends(l Leg) (from, to int) {
	joint := s.Joints[l.Joint]
	if l.Back {
		return joint.B, joint.A
	}
	return joint.A, joint.B
}

// legsFrom yields the legs that begin at a sheet, with the sheets at which they end.
func (s Set) legsFrom(sheet int) iter.Seq2[Leg, int] {
	return func(yield func(Leg, int) bool) {
		for number := range s.Joints {
			for _, back := range [2]bool{false, true} {
				leg := Leg{Joint: number, Back: back}
				if from, to := s.ends(leg); from == sheet && !yield(leg, to) {
					return
				}
			}
		}
	}
}

// tied returns for each sheet the least one that is tied with it. Each time that all joints are asked, its number comes
// at least one sheet farther.
func (s Set) tied() []int {
	tied := make([]int, s.Sheets)
	for sheet := range tied {
		tied[sheet] = sheet
	}
	for range s.Sheets {
		for _, j := range s.Joints {
			first := min(tied[j.A], tied[j.B])
			tied[j.A], tied[j.B] = first, first
		}
	}
	return tied
}

// isRound reports whether each leg begins where the one before ends, and the last one ends where the first one begins.
func (s Set) isRound(legs []Leg) bool {
	first, _ := s.ends(legs[0])
	at := first
	goesOn := func(l Leg) bool {
		from, to := s.ends(l)
		begins := from == at
		at = to
		return begins
	}
	return every(legs, goesOn) && at == first
}

// says returns by how much the shift at the end of a leg is greater than that where it begins.
func (c *chart) says(l Leg) int {
	by := c.of(c.Joints[l.Joint])
	if l.Back {
		return -by
	}
	return by
}

// proves returns what a round proves.
func (c *chart) proves(round []Leg) api.Ratio {
	sum := 0
	for _, leg := range round {
		sum += c.says(leg)
	}
	return size(ratio(sum, len(round)))
}

// setOut goes from a sheet on to all that it comes to, and forgets what was reckoned for another one, or another play. Each
// leg says by how much a shift is greater at least: by what its joint says, less the play.
func (c *chart) setOut(from int) {
	clear(c.apart[:])
	c.apart[0][from].is = true
	for legs := range c.Sheets {
		for sheet, here := range c.apart[legs] {
			if !here.is {
				continue
			}
			for leg, to := range c.legsFrom(sheet) {
				there := &c.apart[legs+1][to]
				far := here.far + c.says(leg)*c.play.D - c.play.N
				if !there.is || far > there.far {
					*there = reach{is: true, far: far, last: leg}
				}
			}
		}
	}
}

// walkTo returns the walk of a number of legs that leads farthest to a sheet.
func (c *chart) walkTo(sheet, legs int) []Leg {
	walk := make([]Leg, legs)
	for ; legs > 0; legs-- {
		last := c.apart[legs][sheet].last
		walk[legs-1] = last
		sheet, _ = c.ends(last)
	}
	return walk
}

// least returns by how much the shift of a sheet is greater than that of the one at which the chart set out, at least, if
// both are tied, and the play is enough.
func (c *chart) least(sheet int) api.Ratio {
	far := math.MinInt
	for legs := range c.Sheets {
		if there := c.apart[legs][sheet]; there.is {
			far = max(far, there.far)
		}
	}
	return ratio(far, c.play.D)
}

// bounds returns by how much the shift of b is greater than that of a, at least and at most, if they are tied, and the
// play is enough. It is greater at most by so much if that of a is greater at least by so much less than 0.
func (c *chart) bounds(a, b int) Bounds {
	c.setOut(a)
	lo := c.least(b)
	c.setOut(b)
	return Bounds{Lo: lo, Hi: minus(whole(0), c.least(a))}
}

// raise gives a chart the least play for its way, and returns a round that proves it, if it is more than 0. A round that
// needs more play than the chart has leads farther than to where it begins; and if there is any, there is one that goes
// through no sheet twice. No round of as many legs from its sheet proves more than the one that leads farthest: with the
// play that this one proves, none of so many is found there again.
func (c *chart) raise() []Leg {
	var round []Leg
	for sheet := range c.Sheets {
	search:
		for {
			c.setOut(sheet)
			for legs := range c.apart {
				if c.apart[legs][sheet].far > 0 {
					round = c.walkTo(sheet, legs)
					c.play = c.proves(round)
					continue search
				}
			}
			break
		}
	}
	return round
}

// worst returns a round that proves the least play, if that is more than 0, and the least play.
func (s Set) worst() (Round, api.Ratio) {
	east, north := chartOf(s, false, whole(0)), chartOf(s, true, whole(0))
	ofEast, ofNorth := east.raise(), north.raise()
	play := greatest(east.play, north.play)
	if play == east.play {
		return Round{Legs: ofEast}, play
	}
	return Round{North: true, Legs: ofNorth}, play
}

// shifts returns shifts that need at most a play that is enough: each one is as much greater than that of the first sheet
// with which its sheet is tied as it is at least.
func (s Set) shifts(play api.Ratio) []Shift {
	east, north := chartOf(s, false, play), chartOf(s, true, play)
	shifts := make([]Shift, s.Sheets)
	for sheet, first := range s.tied() {
		east.setOut(first)
		north.setOut(first)
		shifts[sheet] = Shift{X: east.least(sheet), Y: north.least(sheet)}
	}
	return shifts
}

// needs returns the play that shifts need.
func (s Set) needs(shifts []Shift) api.Ratio {
	var plays []api.Ratio
	for _, j := range s.Joints {
		from, to := shifts[j.A], shifts[j.B]
		plays = append(plays, size(minus(minus(to.X, from.X), whole(j.X))), size(minus(minus(to.Y, from.Y), whole(j.Y))))
	}
	return greatest(whole(0), plays...)
}
