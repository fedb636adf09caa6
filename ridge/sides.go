package ridge

import "limitrophe/api"

// spans returns the least and the greatest pass from each cell to a sea. No truth is lower than that of all Los, nor
// higher than that of all His.
func (g Ground) spans(sea int) [MaxCells]api.Span {
	least, most := look(g, low).passes(sea), look(g, high).passes(sea)
	var list [MaxCells]api.Span
	for cell := range list {
		list[cell] = api.Span{Lo: least[cell], Hi: most[cell]}
	}
	return list
}

// drains returns how cells drain.
func (w *work) drains() []Drain {
	first, second := w.passes(firstSea), w.passes(secondSea)
	list := make([]Drain, len(w.Seas))
	for cell, sea := range w.Seas {
		switch {
		case sea == firstSea || first[cell] < second[cell]:
			list[cell] = First
		case sea == secondSea || first[cell] > second[cell]:
			list[cell] = Second
		case first[cell] < never:
			list[cell] = Even
		}
	}
	return list
}

// sides returns the side of each cell. Both passes from a cell can have any height that is in both of their spans: they
// have it in the truth in which each cell is as near to that height as it can be.
func (g Ground) sides() []Side {
	first, second := g.spans(firstSea), g.spans(secondSea)
	canFirst, canSecond := g.lower(firstSea, secondSea), g.lower(secondSea, firstSea)
	list := make([]Side, len(g.Seas))
	for cell, sea := range g.Seas {
		a, b := first[cell], second[cell]
		list[cell] = Side{
			First:  sea == firstSea || canFirst[cell],
			Second: sea == secondSea || canSecond[cell],
			Even:   greatest(a.Lo, b.Lo) <= min(a.Hi, b.Hi, MaxHeight),
		}
	}
	return list
}

// lower marks the cells from which the pass to a sea is in some truth lower than that to the other one. These have a way
// to the sea that can be no higher than some height, while all that leads from cells of this way to the other sea can be
// higher: its own cells are at their lowest then, and all others at their highest. It is enough to try the heights at
// which another cell can be entered.
func (g Ground) lower(sea, other int) marks {
	w, beyond := look(g, low), look(g, high).beyond(other)
	tried := map[int]bool{}
	var list marks
	for cell, span := range w.Heights {
		height := span.Lo
		if w.Seas[cell] != land || tried[height] {
			continue
		}
		tried[height] = true
		canEnter := func(cell int) bool { return w.height(cell) <= height && beyond[cell] > height }
		for cell := range w.walk(sea, canEnter) {
			list[cell] = true
		}
	}
	return list
}

// beyond returns for each cell the least height of what follows it on ways to a sea. It is None if nothing has to.
func (w *work) beyond(sea int) passes {
	pass := w.passes(sea)
	var list passes
	for cell := range w.Seas {
		list[cell] = never
		for next := range w.neighbours(cell) {
			if w.Seas[next] == sea {
				list[cell] = None
			}
			list[cell] = min(list[cell], pass[next])
		}
	}
	return list
}

// isInDoubt reports whether a cell can drain in more than one way.
func (s Side) isInDoubt() bool {
	return s != Side{} && s != Side{First: true} && s != Side{Second: true} && s != Side{Even: true}
}

// saddles returns the cells that can be a saddle, where that is at most so high. A cell can be one if it can have the
// least height that crossings through it can have, and if no crossing has to be lower: it is one in the truth in which
// each cell is as near to that height as it can be.
func (g Ground) saddles(most int) []int {
	first, second := g.spans(firstSea), g.spans(secondSea)
	var list []int
	for cell, span := range g.Heights {
		if greatest(first[cell].Lo, second[cell].Lo) <= min(span.Hi, most) {
			list = append(list, cell)
		}
	}
	return list
}
