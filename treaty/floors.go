package treaty

import "slices"

// maxFloor is the greatest floor.
const maxFloor = MaxLegs + 1

// price returns how much a step of a line costs: 1 if it breaks the leg.
func price(canLead func(leg, from, to int) bool, leg, from, to int) int {
	if canLead(leg, from, to) {
		return 0
	}
	return 1
}

// floors returns how many legs a line must break at least to come to each place, in a row for the start and one for
// each leg. At places where no line starts the floor is the greatest one, which no line through them needs.
func (w *work) floors() [][]int {
	canLead := w.canLead
	rows := make([][]int, len(w.Legs)+1)
	rows[0] = slices.Repeat([]int{maxFloor}, w.Places)
	for _, start := range w.Starts {
		rows[0][start] = 0
	}
	for leg := range w.Legs {
		rows[leg+1] = slices.Repeat([]int{maxFloor}, w.Places)
		for from, floor := range rows[leg] {
			for to := range w.Places {
				rows[leg+1][to] = min(rows[leg+1][to], floor+price(canLead, leg, from, to))
			}
		}
	}
	return rows
}

// hold reports whether floors hold.
func (w *work) hold(rows [][]int) bool {
	canLead := w.canLead
	if !every(w.Starts, func(start int) bool { return rows[0][start] == 0 }) {
		return false
	}
	for leg := range w.Legs {
		for from, floor := range rows[leg] {
			for to := range w.Places {
				if rows[leg+1][to] > floor+price(canLead, leg, from, to) {
					return false
				}
			}
		}
	}
	return true
}

// yielding returns the legs that a line breaks which breaks the fewest. The line is followed from its end to its start.
func (w *work) yielding() []int {
	canLead, rows := w.canLead, w.floors()
	last := rows[len(w.Legs)]
	place := slices.Index(last, slices.Min(last))
	var legs []int
	for leg := len(w.Legs) - 1; leg >= 0; leg-- {
		from := 0 // one is found, as floors of places that a line can come to are less than the greatest
		for rows[leg][from]+price(canLead, leg, from, place) != rows[leg+1][place] {
			from++
		}
		if !canLead(leg, from, place) {
			legs = append(legs, leg)
		}
		place = from
	}
	slices.Reverse(legs)
	return legs
}
