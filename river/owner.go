package river

// distance is how far a cell, or an island, is from both shores.
type distance struct{ west, east int }

// isle is an island at work.
type isle struct {
	first int
	distance
}

// giving is a way in which islands are given to shores.
type giving struct {
	near bool
	to   func(distance) int // to whom an island is given; it stays as it is if that is no shore
}

// owner returns whose is what is so far from the shores.
func (d distance) owner() int {
	switch {
	case d == distance{None, None}:
		return Nobody
	case d.west == d.east:
		return Both
	case d.west == least(d.west, d.east):
		return West
	}
	return East
}

// distances returns how far each cell of a valid map is from the shores.
func (m Map) distances() []distance {
	west, east := look(m, West).far(), look(m, East).far()
	list := make([]distance, len(m.Cells))
	for cell := range list {
		list[cell] = distance{west[cell], east[cell]}
	}
	return list
}

// isles returns the islands of a valid map, whose cells are so far from the shores, and their numbers by their cells.
func (m Map) isles(far []distance) ([]isle, map[int]int) {
	var list []isle
	numbers := map[int]int{}
	isIsland := func(cell int) bool { return m.Cells[cell] == Island }
	for number, cells := range together(m.which(isIsland), m.neighbours) {
		var west, east []int
		for _, cell := range cells {
			numbers[cell] = number
			west, east = append(west, far[cell].west), append(east, far[cell].east)
		}
		list = append(list, isle{cells[0], distance{least(west...), least(east...)}})
	}
	return list, numbers
}

// share returns whose islands are. They are given by nearness, and then by count, as far as they are left: all that are
// near count before any is given by count.
func share(isles []isle) []Share {
	list := make([]Share, len(isles))
	for number, x := range isles {
		list[number].First = x.first
	}
	has := map[int]int{} // how many islands there are, by their owners
	fewer := func(distance) int {
		if has[East] < has[West] {
			return East
		}
		return West
	}
	for _, g := range [2]giving{{true, distance.owner}, {false, fewer}} {
		for number, x := range isles {
			isLeft := list[number] == Share{First: x.first}
			if owner := g.to(x.distance); isLeft && isShore(owner) && x.owner() != Nobody {
				list[number] = Share{First: x.first, Owner: owner, Near: g.near}
				has[owner]++
			}
		}
	}
	return list
}

// owners returns whose the cells of a valid map are.
func (m Map) owners() []int {
	far := m.distances()
	isles, numbers := m.isles(far)
	shares := share(isles)
	list := make([]int, len(m.Cells))
	for cell, kind := range m.Cells {
		switch kind {
		case Water:
			list[cell] = far[cell].owner()
		case Island:
			list[cell] = shares[numbers[cell]].Owner
		default:
			list[cell] = kind // land has the number of its shore
		}
	}
	return list
}
