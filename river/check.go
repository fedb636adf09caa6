package river

import "limitrophe/api"

// minWide is the least width of a map: land of both shores, and a cell in between.
const minWide = 3

// maxSlow is the greatest number that can be asked for slow: as many cells as a map may have.
const maxSlow = MaxSide * MaxSide

// Check reports whether a map is valid.
func Check(m Map) api.Errno {
	if !between(m.Wide, minWide, MaxSide) || !between(m.High, 1, MaxSide) || len(m.Cells) != m.Wide*m.High {
		return api.ErrCount
	}
	if !every(m.Cells, isKind) {
		return api.ErrValue
	}
	return checkRows(m)
}

// checkRows returns the error of the rows of a map, all of whose cells are of some kind.
func checkRows(m Map) api.Errno {
	e := api.OK
rows:
	for row := range m.High {
		west := row * m.Wide
		for _, end := range [2]struct{ cell, shore int }{{west, West}, {west + m.Wide - 1, East}} {
			if m.Cells[end.cell] != end.shore {
				e = api.ErrFalse
				break rows
			}
		}
	}
	return e
}

// CheckYears reports whether years are valid.
func CheckYears(l []Map) api.Errno {
	if !between(len(l), 1, MaxYears) {
		return api.ErrCount
	}
	for _, m := range l {
		if e := Check(m); e != api.OK {
			return e
		}
	}
	isLikeFirst := func(m Map) bool { return m.Wide == l[0].Wide && m.High == l[0].High }
	if !every(l, isLikeFirst) {
		return api.ErrArg
	}
	return api.OK
}

// checkShore returns the error of a map, then that of a shore.
func checkShore(m Map, shore int) api.Errno {
	if e := Check(m); e != api.OK {
		return e
	}
	if !isShore(shore) {
		return api.ErrValue
	}
	return api.OK
}

// checkSlow returns the error of years, then that of the number of cells of a slow change.
func checkSlow(l []Map, slow int) api.Errno {
	if e := CheckYears(l); e != api.OK {
		return e
	}
	if !between(slow, 0, maxSlow) {
		return api.ErrValue
	}
	return api.OK
}

// isKind reports whether a number is a kind of cells.
func isKind(n int) bool { return between(n, Water, Island) }

// isShore reports whether a number is one of the shores.
func isShore(n int) bool { return n == West || n == East }

// isOwner reports whether a number is one to whom cells can belong.
func isOwner(n int) bool { return between(n, Nobody, Both) }

// isCell reports whether a number is that of a cell of a valid map.
func (m Map) isCell(n int) bool { return between(n, 0, len(m.Cells)-1) }

// every reports whether something holds for every element of a list.
func every[T any](list []T, holds func(T) bool) bool {
	for _, x := range list {
		if !holds(x) {
			return false
		}
	}
	return true
}

// between reports whether a number is from one number to another one.
func between(n, least, most int) bool { return n >= least && n <= most }
