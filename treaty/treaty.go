// Package treaty is layer 1: see shared/doc/01-treaty.md.
package treaty

import (
	"slices"

	"limitrophe/api"
)

// None is no word, and the limits of layer 1.
const (
	None        = -1
	MaxPlaces   = 12
	MaxWays     = 40
	MaxKind     = 7
	MaxWords    = 6
	MaxMeanings = 4
	MaxLegs     = 10
	MaxReadings = 256
	MaxLines    = 200
)

// Way joins two places.
type Way struct{ A, B, Kind int }

// Meaning says along which ways one goes, and where to.
type Meaning struct{ Kinds, Ends []int }

// Leg is told by a word, and perhaps by one of the other language.
type Leg struct{ Word, Other int }

// Treaty has words, and the ground that they are about.
type Treaty struct {
	Places int
	Ways   []Way
	Words  [][]Meaning
	Starts []int
	Legs   []Leg
}

// Lines returns all lines that agree in a reading.
func Lines(t Treaty, reading []int) ([][]int, api.Errno) {
	if e := checkReading(t, reading); e != api.OK {
		return nil, e
	}
	var lines [][]int
	for line := range read(t, reading).lines() {
		if len(lines) == MaxLines {
			return nil, api.ErrLarge
		}
		lines = append(lines, line)
	}
	return lines, api.OK
}

// Breaks returns the legs that a line does not keep.
func Breaks(t Treaty, reading, line []int) ([]int, api.Errno) {
	if e := checkReading(t, reading); e != api.OK {
		return nil, e
	}
	if e := checkLine(t, line); e != api.OK {
		return nil, e
	}
	if !slices.Contains(t.Starts, line[0]) {
		return nil, api.ErrFalse
	}
	canLead := read(t, reading).canLead
	var broken []int
	for leg := range t.Legs {
		if !canLead(leg, line[leg], line[leg+1]) {
			broken = append(broken, leg)
		}
	}
	return broken, api.OK
}

// Agrees returns the first reading in which a line agrees.
func Agrees(t Treaty, line []int) ([]int, api.Errno) {
	if e := Check(t); e != api.OK {
		return nil, e
	}
	if e := checkLine(t, line); e != api.OK {
		return nil, e
	}
	if !slices.Contains(t.Starts, line[0]) {
		return nil, api.ErrNone
	}
search:
	for reading := range t.readings() {
		canLead := read(t, reading).canLead
		for leg := range t.Legs {
			if !canLead(leg, line[leg], line[leg+1]) {
				continue search
			}
		}
		return reading, api.OK
	}
	return nil, api.ErrNone
}

// Readings returns all readings in which some line agrees.
func Readings(t Treaty) ([][]int, api.Errno) {
	if e := Check(t); e != api.OK {
		return nil, e
	}
	var list [][]int
	for reading := range t.readings() {
		if read(t, reading).hasLine() {
			list = append(list, reading)
		}
	}
	return list, api.OK
}

// All returns all lines that agree in some reading.
func All(t Treaty) ([][]int, api.Errno) {
	if e := Check(t); e != api.OK {
		return nil, e
	}
	var all [][]int
	met := map[string]bool{}
	for reading := range t.readings() {
		for line := range read(t, reading).lines() {
			text := textOf(line)
			if met[text] {
				continue
			}
			if len(all) == MaxLines {
				return nil, api.ErrLarge
			}
			met[text] = true
			all = append(all, line)
		}
	}
	slices.SortFunc(all, slices.Compare)
	return all, api.OK
}

// Ends returns the places that lines have at the start and behind each leg.
func Ends(t Treaty) ([][]int, api.Errno) {
	if e := Check(t); e != api.OK {
		return nil, e
	}
	var met steps
	for reading := range t.readings() {
		met.add(read(t, reading).ends())
	}
	if met[0] == (marks{}) {
		return nil, api.ErrNone
	}
	ends := make([][]int, len(t.Legs)+1)
	for step := range ends {
		for place := range t.Places {
			if met[step][place] {
				ends[step] = append(ends[step], place)
			}
		}
	}
	return ends, api.OK
}

// Yield returns the fewest legs that are enough if they yield.
func Yield(t Treaty, reading []int) ([]int, api.Errno) {
	if e := checkReading(t, reading); e != api.OK {
		return nil, e
	}
	return read(t, reading).yielding(), api.OK
}

// Enough reports whether legs are enough if they yield.
func Enough(t Treaty, reading, legs []int) (bool, api.Errno) {
	if e := checkReading(t, reading); e != api.OK {
		return false, e
	}
	if !every(legs, under(len(t.Legs))) {
		return false, api.ErrArg
	}
	if !increasing(legs) {
		return false, api.ErrOrder
	}
	w := read(t, reading)
	w.counts = func(leg int) bool { return !slices.Contains(legs, leg) }
	return w.hasLine(), api.OK
}

// Fewest returns the first reading of those in which fewest legs must yield, and how many.
func Fewest(t Treaty) ([]int, int, api.Errno) {
	if e := Check(t); e != api.OK {
		return nil, 0, e
	}
	var best []int
	fewest := len(t.Legs) + 1
	for reading := range t.readings() {
		if n := slices.Min(read(t, reading).floors()[len(t.Legs)]); n < fewest {
			best, fewest = reading, n
		}
	}
	return best, fewest, api.OK
}

// Floors returns floors that prove that fewer legs are not enough.
func Floors(t Treaty, reading []int) ([][]int, api.Errno) {
	if e := checkReading(t, reading); e != api.OK {
		return nil, e
	}
	return read(t, reading).floors(), api.OK
}

// Proves returns what floors prove.
func Proves(t Treaty, reading []int, floors [][]int) (int, api.Errno) {
	if e := checkReading(t, reading); e != api.OK {
		return 0, e
	}
	isFloor := under(maxFloor + 1)
	switch {
	case len(floors) != len(t.Legs)+1 || !every(floors, func(row []int) bool { return len(row) == t.Places }):
		return 0, api.ErrCount
	case !every(floors, func(row []int) bool { return every(row, isFloor) }):
		return 0, api.ErrValue
	case !read(t, reading).hold(floors):
		return 0, api.ErrFalse
	}
	return slices.Min(floors[len(t.Legs)]), api.OK
}
