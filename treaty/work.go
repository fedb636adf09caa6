package treaty

import (
	"iter"
	"slices"
	"strconv"
)

// leads says from which place (the first number) to which place a leg can lead.
type leads [MaxPlaces][MaxPlaces]bool

// marks marks places.
type marks [MaxPlaces]bool

// steps marks places at the start, and behind each leg.
type steps [MaxLegs + 1]marks

// work is a valid treaty at work in one reading.
type work struct {
	Treaty
	leads  [MaxLegs]leads
	counts func(leg int) bool // whether a line must keep the leg
}

// read puts a treaty to work in a reading. All its legs count.
func read(t Treaty, reading []int) *work {
	w := &work{Treaty: t, counts: func(int) bool { return true }}
	ways := distinct(t.Ways)
	for number, leg := range t.Legs {
		w.leads[number] = follow(ways, t.meaning(leg, reading))
	}
	return w
}

// readings yields all readings of a valid treaty, in their order.
func (t Treaty) readings() iter.Seq[[]int] {
	return func(yield func([]int) bool) {
		reading := make([]int, len(t.Words))
		for yield(slices.Clone(reading)) {
			word := len(reading) - 1
			for word >= 0 && reading[word] == len(t.Words[word])-1 {
				reading[word] = 0
				word--
			}
			if word < 0 {
				return
			}
			reading[word]++
		}
	}
}

// meaning returns on what the words of a leg agree in a reading.
func (t Treaty) meaning(leg Leg, reading []int) Meaning {
	first := t.Words[leg.Word][reading[leg.Word]]
	if leg.Other == None {
		return first
	}
	return common(first, t.Words[leg.Other][reading[leg.Other]])
}

// common returns on what meanings that must agree do so.
func common(first Meaning, others ...Meaning) Meaning {
	for _, m := range others {
		first = Meaning{Kinds: inBoth(first.Kinds, m.Kinds), Ends: inBoth(first.Ends, m.Ends)}
	}
	return first
}

// inBoth returns what is common to two lists, as a sorted copy.
func inBoth(a, b []int) []int {
	list := slices.DeleteFunc(slices.Clone(a), func(n int) bool { return !slices.Contains(b, n) })
	slices.Sort(list)
	return list
}

// distinct returns ways without those that are told again, or told backwards: these lead nowhere new.
func distinct(ways []Way) []Way {
	var list []Way
	for _, way := range ways {
		back := Way{A: way.B, B: way.A, Kind: way.Kind}
		if every(list, func(other Way) bool { return other != way && other != back }) {
			list = append(list, way)
		}
	}
	return list
}

// follow returns where a leg with a meaning can lead along ways.
func follow(ways []Way, m Meaning) leads {
	var table leads
	for _, way := range ways {
		if slices.Contains(m.Kinds, way.Kind) {
			table[way.A][way.B], table[way.B][way.A] = true, true
		}
	}
	for via := range MaxPlaces {
		for from := range MaxPlaces {
			for to := range MaxPlaces {
				table[from][to] = table[from][to] || table[from][via] && table[via][to]
			}
		}
	}
	for from := range MaxPlaces {
		for to := range MaxPlaces {
			table[from][to] = table[from][to] && slices.Contains(m.Ends, to)
		}
	}
	return table
}

// canLead reports whether a leg can lead from a place to a place. One that does not count leads everywhere.
func (w *work) canLead(leg, from, to int) bool {
	return !w.counts(leg) || w.leads[leg][from][to]
}

// open marks the places from which all legs behind them can be kept. Whoever follows a line through these alone
// comes to its end, and never looks through lines that are as good as lost.
func (w *work) open() steps {
	canLead := w.canLead
	var open steps
	for place := range w.Places {
		open[len(w.Legs)][place] = true
	}
	for leg := len(w.Legs) - 1; leg >= 0; leg-- {
		for from := range w.Places {
			for to := range w.Places {
				if open[leg+1][to] && canLead(leg, from, to) {
					open[leg][from] = true
				}
			}
		}
	}
	return open
}

// hasLine reports whether some line keeps all legs that count.
func (w *work) hasLine() bool {
	open := w.open()
	return slices.ContainsFunc(w.Starts, func(start int) bool { return open[0][start] })
}

// lines yields all lines that keep all legs that count, in their order.
func (w *work) lines() iter.Seq[[]int] {
	return func(yield func([]int) bool) {
		canLead, open := w.canLead, w.open()
		line := make([]int, len(w.Legs)+1)
		var goOn func(step, place int) bool
		goOn = func(step, place int) bool {
			line[step] = place
			if step == len(w.Legs) {
				return yield(slices.Clone(line))
			}
			for next := range w.Places {
				if open[step+1][next] && canLead(step, place, next) && !goOn(step+1, next) {
					return false
				}
			}
			return true
		}
		for _, start := range w.Starts {
			if open[0][start] && !goOn(0, start) {
				return
			}
		}
	}
}

// ends marks the places of all lines that keep all legs that count.
func (w *work) ends() steps {
	canLead, open := w.canLead, w.open()
	var ends steps
	for _, start := range w.Starts {
		ends[0][start] = open[0][start]
	}
	for leg := range w.Legs {
		for from := range w.Places {
			for to := range w.Places {
				if ends[leg][from] && open[leg+1][to] && canLead(leg, from, to) {
					ends[leg+1][to] = true
				}
			}
		}
	}
	return ends
}

// add marks what other steps mark, too.
func (s *steps) add(other steps) {
	for step := range other {
		for place := range other[step] {
			s[step][place] = s[step][place] || other[step][place]
		}
	}
}

// textOf returns a text that no other line has.
func textOf(line []int) string {
	var text []byte
	for _, place := range line {
		text = strconv.AppendInt(text, int64(place), 10)
		text = append(text, ' ')
	}
	return string(text)
}
