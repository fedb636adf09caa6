package river_test

import (
	"math/rand"
	"slices"
	"strconv"
	"strings"
	"testing"

	"limitrophe/api"
	"limitrophe/river"
)

// none is the number of what there is not, as the chapter writes it.
const none = -1

// list makes a list, span a span, and spans a list of spans of their ends.
func list(n ...int) []int      { return n }
func span(lo, hi int) api.Span { return api.Span{Lo: lo, Hi: hi} }
func spans(ends ...int) []api.Span {
	var l []api.Span
	for i := 0; i < len(ends); i += 2 {
		l = append(l, span(ends[i], ends[i+1]))
	}
	return l
}

// rowsOf returns the rows of a text with a / between them, without blanks.
func rowsOf(text string) []string { return strings.Split(strings.ReplaceAll(text, " ", ""), "/") }

// drawn makes a map of rows with a / between them: . is Water, W and E are land of the West and the East, I is Island.
func drawn(text string) river.Map {
	rows := rowsOf(text)
	m := river.Map{Wide: len(rows[0]), High: len(rows)}
	for _, row := range rows {
		for i := range len(row) {
			m.Cells = append(m.Cells, strings.IndexByte(".WEI", row[i]))
		}
	}
	return m
}

// years makes years of maps.
func years(texts ...string) []river.Map {
	var l []river.Map
	for _, text := range texts {
		l = append(l, drawn(text))
	}
	return l
}

// owned makes a list of owners of rows with a / between them: N is Nobody, B is Both.
func owned(text string) []int {
	var l []int
	for _, row := range rowsOf(text) {
		for i := range len(row) {
			l = append(l, strings.IndexByte("NWEB", row[i]))
		}
	}
	return l
}

// numbers makes a list of numbers, where - is none, and / stands between rows.
func numbers(text string) []int {
	var l []int
	for _, field := range strings.Fields(strings.ReplaceAll(text, "/", " ")) {
		n, e := strconv.Atoi(field)
		if field == "-" {
			n, e = none, nil
		}
		if e != nil {
			panic(e)
		}
		l = append(l, n)
	}
	return l
}

// near makes an island that is near to its owner, given one that was given by count, and nobodys one that is Nobody's.
func near(first, owner int) river.Share  { return river.Share{First: first, Owner: owner, Near: true} }
func given(first, owner int) river.Share { return river.Share{First: first, Owner: owner} }
func nobodys(first int) river.Share      { return river.Share{First: first, Owner: river.Nobody} }

// blank makes a map of water between the ends of its rows, where there is a place for them.
func blank(wide, high int) river.Map {
	m := river.Map{Wide: wide, High: high, Cells: make([]int, wide*high)}
	for row := range high {
		m.Cells[row*wide], m.Cells[row*wide+wide-1] = river.West, river.East
	}
	return m
}

// copyOf returns a map that shares no memory with another one.
func copyOf(m river.Map) river.Map {
	return river.Map{Wide: m.Wide, High: m.High, Cells: slices.Clone(m.Cells)}
}

// copiesOf returns years that share no memory with other ones.
func copiesOf(l []river.Map) []river.Map {
	l = slices.Clone(l)
	for year, m := range l {
		l[year] = copyOf(m)
	}
	return l
}

// withCell returns a map in which a cell is of another kind.
func withCell(m river.Map, cell, kind int) river.Map {
	m = copyOf(m)
	m.Cells[cell] = kind
	return m
}

// areAlike reports whether two maps are the same.
func areAlike(a, b river.Map) bool {
	return a.Wide == b.Wide && a.High == b.High && slices.Equal(a.Cells, b.Cells)
}

// mirrored returns a map in which East is West.
func mirrored(m river.Map) river.Map {
	kinds := list(river.Water, river.East, river.West, river.Island)
	turned := copyOf(m)
	for cell, kind := range m.Cells {
		turned.Cells[mirror(m, cell)] = kinds[kind]
	}
	return turned
}

// mirror returns the cell that is as far from the end of its row as a cell is from its beginning.
func mirror(m river.Map, cell int) int { return cell - cell%m.Wide + m.Wide - 1 - cell%m.Wide }

// expect reports an error that is not the one wanted.
func expect(t *testing.T, what string, got, want api.Errno) {
	t.Helper()
	if got != want {
		t.Errorf("%s: error %d, not %d", what, got, want)
	}
}

// anyMap returns a map of any cells, so many of 10 of which are water.
func anyMap(r *rand.Rand, wide, high, water int) river.Map {
	m := blank(wide, high)
	for cell, kind := range m.Cells {
		if kind == river.Water && r.Intn(10) >= water {
			m.Cells[cell] = list(river.West, river.East, river.Island, river.Island)[r.Intn(4)]
		}
	}
	return m
}

// smallMap returns a map of few cells, of which all ways can be looked at.
func smallMap(r *rand.Rand) river.Map {
	for {
		wide, high := 3+r.Intn(10), 1+r.Intn(5)
		if (wide-2)*high <= 12 {
			return anyMap(r, wide, high, 3+r.Intn(6))
		}
	}
}

// greatMap returns a map of up to 144 cells.
func greatMap(r *rand.Rand) river.Map { return anyMap(r, 3+r.Intn(10), 1+r.Intn(12), 2+r.Intn(8)) }

// anyYears returns years that begin with a map, and in which some cells that lie beside each other change.
func anyYears(r *rand.Rand, m river.Map) []river.Map {
	l := []river.Map{m}
	for range r.Intn(10) {
		m = copyOf(m)
		for range r.Intn(4) {
			change(r, m)
		}
		l = append(l, m)
	}
	return l
}

// change lets up to six cells be of another kind, each of which is, with one before it, in a row or in a column.
func change(r *rand.Rand, m river.Map) {
	cell := r.Intn(len(m.Cells))
	for range 1 + r.Intn(6) {
		if column := cell % m.Wide; column > 0 && column < m.Wide-1 {
			m.Cells[cell] = r.Intn(4)
		}
		next := cell + list(1, -1, m.Wide, -m.Wide)[r.Intn(4)]
		if next >= 0 && next < len(m.Cells) {
			cell = next
		}
	}
}
