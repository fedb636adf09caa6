package passage

import (
	"iter"
	"slices"
)

// allHeads is as many as can go at all: no drive brings more.
const allHeads = MaxWays * MaxHeads

// direction is one of the two in which heads are pushed over a way: along it, or back, as far as some went along it.
type direction struct {
	from, to func(Way) int              // the posts between which a way leads then
	left     func(heads, bears int) int // how many more can be pushed over a way that bears so many, if some heads go
	adds     int                        // how many more heads go along a way if one more is pushed
}

// drive is a valid net at work, in which all sources are one post, and all goals are one.
type drive struct {
	Net
	joined [MaxPosts]int  // the post that stands for each post
	heads  []int          // how many go along each way
	met    [MaxPosts]bool // the posts that the last push came to
}

// start returns the post from which a way leads.
func start(w Way) int { return w.From }

// end returns the post to which a way leads.
func end(w Way) int { return w.To }

// directions returns the two in which heads are pushed.
func directions() [2]direction {
	return [2]direction{
		{from: start, to: end, left: func(heads, bears int) int { return bears - heads }, adds: 1},
		{from: end, to: start, left: func(heads, bears int) int { return heads }, adds: -1},
	}
}

// waysFrom yields the ways that lead from a post if they are gone in a direction, with their numbers.
func (n Net) waysFrom(post int, d direction) iter.Seq2[int, Way] {
	return which(n.Ways, func(w Way) bool { return d.from(w) == post })
}

// surplus returns how many more heads go from a post than come to it.
func (n Net) surplus(post int, heads []int) int {
	var numbers []int
	for _, d := range directions() {
		for number := range n.waysFrom(post, d) {
			numbers = append(numbers, d.adds*heads[number])
		}
	}
	return sum(numbers...)
}

// isDrive reports whether at each post that is no pasture as many heads come as go.
func (n Net) isDrive(pastures, heads []int) bool {
	for post := range n.Posts {
		if n.surplus(post, heads) != 0 && !slices.Contains(pastures, post) {
			return false
		}
	}
	return true
}

// brings returns how many heads a drive brings from its sources.
func (n Net) brings(from, heads []int) int {
	var numbers []int
	for _, post := range from {
		numbers = append(numbers, n.surplus(post, heads))
	}
	return sum(numbers...)
}

// bars returns how many heads a cut bars.
func (n Net) bars(posts []int) int {
	var numbers []int
	for _, way := range n.Ways {
		if slices.Contains(posts, way.From) && !slices.Contains(posts, way.To) {
			numbers = append(numbers, way.Heads)
		}
	}
	return sum(numbers...)
}

// driveMost puts a valid net to work for valid pastures, and lets as many heads go as can. The last push, for which there
// were none any more, came to all posts to which one more head would get.
func driveMost(n Net, from, to []int) *drive {
	d := join(n, from, to)
	for d.push(d.joined[from[0]], d.joined[to[0]], allHeads) > 0 {
	}
	return d
}

// join returns a net in which all sources are one post, and all goals are one, with no heads on its ways.
func join(n Net, from, to []int) *drive {
	d := &drive{Net: n, heads: make([]int, len(n.Ways))}
	for post := range d.joined {
		d.joined[post] = post
	}
	for _, pastures := range [2][]int{from, to} {
		for _, post := range pastures {
			d.joined[post] = pastures[0]
		}
	}
	d.Ways = slices.Clone(n.Ways)
	for number, way := range d.Ways {
		d.Ways[number].From, d.Ways[number].To = d.joined[way.From], d.joined[way.To]
	}
	return d
}

// push pushes up to so many heads from one post on to another one, by one walk, and returns how many got there.
func (d *drive) push(from, to, most int) int {
	clear(d.met[:])
	var pushOn func(post, many int) int
	pushOn = func(post, many int) int {
		d.met[post] = true
		if post == to {
			return many
		}
		got := 0
	search:
		for _, over := range directions() {
			for number, way := range d.waysFrom(post, over) {
				next, left := over.to(way), over.left(d.heads[number], way.Heads)
				if left == 0 || d.met[next] {
					continue
				}
				got = pushOn(next, min(many, left))
				d.heads[number] += got * over.adds
				if got > 0 {
					break search
				}
			}
		}
		return got
	}
	return pushOn(from, most)
}

// cut returns the posts to which one more head would get. No more can go over the ways that lead out of them, and none
// comes by those that lead into them: so they bar as many heads as the drive brings.
func (d *drive) cut() []int {
	var posts []int
	for post := range d.Posts {
		if d.met[d.joined[post]] {
			posts = append(posts, post)
		}
	}
	return posts
}

// narrow returns the ways that are narrow.
func (d *drive) narrow() []int {
	var narrow []int
	for number := range d.Ways {
		if d.isNarrow(number) {
			narrow = append(narrow, number)
		}
	}
	return narrow
}

// isNarrow reports whether a way is narrow: as many heads go along it as it bears, and if it bears one less, the one that
// cannot go along it any more finds no walk round it.
func (d *drive) isNarrow(number int) bool {
	way := d.Ways[number]
	if way.Heads == 0 || d.heads[number] < way.Heads {
		return false
	}
	return d.withOneLess(number).push(way.From, way.To, 1) == 0
}

// withOneLess returns a drive with one head less on a way, in a net in which that bears one head less. The head is still
// at the post from which the way leads, and lacks where it leads to.
func (d *drive) withOneLess(number int) *drive {
	less := &drive{Net: d.Net, joined: d.joined, heads: make([]int, len(d.heads))}
	copy(less.heads, d.heads)
	less.Ways = slices.Clone(d.Ways)
	less.heads[number]--
	less.Ways[number].Heads--
	return less
}

// sum returns the sum of numbers.
func sum(numbers ...int) int {
	all := 0
	for _, n := range numbers {
		all += n
	}
	return all
}
