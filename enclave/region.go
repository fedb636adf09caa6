package enclave

import (
	"iter"
	"slices"
)

// chart is a valid map at work with its regions.
type chart struct {
	work
	regions []int // the number of the region of each plot
	firsts  []int // the first plot of each region
}

// look puts a valid map to work.
func look(m Map) *chart {
	c := &chart{work: work{Map: m}, regions: slices.Repeat([]int{None}, len(m.Owners))}
	hangTogether := func(from, to int) bool { return m.Owners[from] == m.Owners[to] }
	for start, region := range c.regions {
		if region != None {
			continue
		}
		for plot := range c.walk(slices.Values([]int{start}), hangTogether) {
			c.regions[plot] = len(c.firsts)
		}
		c.firsts = append(c.firsts, start)
	}
	return c
}

// isRegion reports whether a number is that of a region.
func (c *chart) isRegion(n int) bool { return between(n, 0, len(c.firsts)-1) }

// plotsOf yields the plots of a region.
func (c *chart) plotsOf(region int) iter.Seq[int] {
	return c.which(func(plot int) bool { return c.regions[plot] == region })
}

// ownerOf returns the state to which a region belongs.
func (c *chart) ownerOf(region int) int { return c.Owners[c.firsts[region]] }

// getsOut reports whether one gets out at a plot, as it is in the first or last row or column.
func (m Map) getsOut(plot int) bool {
	column := plot % m.Wide
	return plot < m.Wide || plot+m.Wide >= len(m.Owners) || column == 0 || column == m.Wide-1
}

// wayOut returns a way out of a region without another one, an empty one if there is none.
func (c *chart) wayOut(region, without int) []int {
	canGo := func(from, to int) bool { return c.regions[to] != without }
	for plot := range c.walk(c.plotsOf(region), canGo) {
		if c.getsOut(plot) {
			return c.wayTo(plot)
		}
	}
	return nil
}

// isWayOut reports whether plots are a way out of a region without another one.
func (c *chart) isWayOut(way []int, region, without int) bool {
	isOther := func(plot int) bool { return c.regions[plot] != without }
	return len(way) > 0 && c.regions[way[0]] == region && c.getsOut(way[len(way)-1]) && every(way, isOther) && c.goesOn(way)
}

// inside yields the regions that lie within a region: those to which nothing leads from the rim if that is left out.
func (c *chart) inside(outer int) iter.Seq[int] {
	return func(yield func(int) bool) {
		var waiting queue[int]
		var met marks
		meet := func(plot int) {
			if region := c.regions[plot]; region != outer && !met[region] {
				met[region] = true
				waiting.put(region)
			}
		}
		for plot := range c.which(c.getsOut) {
			meet(plot)
		}
		for !waiting.isEmpty() {
			for plot := range c.plotsOf(waiting.take()) {
				for next := range c.neighbours(plot) {
					meet(next)
				}
			}
		}
		for region := range c.firsts {
			if region != outer && !met[region] && !yield(region) {
				return
			}
		}
	}
}

// depths returns the depth of each region.
func (c *chart) depths() []int {
	depths := make([]int, len(c.firsts))
	for outer := range c.firsts {
		for region := range c.inside(outer) {
			depths[region]++
		}
	}
	return depths
}

// around returns the region around each region. Of those within which it lies it is the deepest one, as each of them lies
// within all that are less deep.
func (c *chart) around() []int {
	depths := c.depths()
	around := slices.Repeat([]int{None}, len(c.firsts))
	for outer := range c.firsts {
		for region := range c.inside(outer) {
			if depths[outer] == depths[region]-1 {
				around[region] = outer
			}
		}
	}
	return around
}

// given returns the map in which a region belongs to the state of another one.
func (c *chart) given(region, other int) Map {
	owners := slices.Clone(c.Owners)
	for plot := range c.plotsOf(region) {
		owners[plot] = c.ownerOf(other)
	}
	return Map{Wide: c.Wide, Owners: owners}
}

// cleared returns the map in which each region belongs to the state of the outermost region around it, and the plots that
// have another owner there.
func (c *chart) cleared() (Map, []int) {
	around := c.around()
	owners := slices.Clone(c.Owners)
	var plots []int
	for plot, outermost := range c.regions {
		for around[outermost] != None {
			outermost = around[outermost]
		}
		if owner := c.ownerOf(outermost); owner != owners[plot] {
			owners[plot] = owner
			plots = append(plots, plot)
		}
	}
	return Map{Wide: c.Wide, Owners: owners}, plots
}
