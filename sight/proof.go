package sight

import (
	"iter"
	"slices"

	"limitrophe/api"
)

// pairs yields the numbers of each two of so many bounds, the lesser one first.
func pairs(bounds int) iter.Seq2[int, int] {
	return func(yield func(int, int) bool) {
		for a := range bounds {
			for b := a + 1; b < bounds; b++ {
				if !yield(a, b) {
					return
				}
			}
		}
	}
}

// way returns the direction into which no place can go on and keep a bound.
func (b Bound) way() api.Point { return api.Point{X: b.A, Y: b.B} }

// times returns a bound so many times.
func (b Bound) times(weight int) Bound { return Bound{weight * b.A, weight * b.B, weight * b.C} }

// sum returns the sum of bounds.
func sum(list ...Bound) Bound {
	var all Bound
	for _, b := range list {
		all = Bound{all.A + b.A, all.B + b.B, all.C + b.C}
	}
	return all
}

// weigh returns weights for three directions, none of them below 0, and not all of them 0, with which they lead nowhere
// together. If not all three are in one line, all such weights are in proportion.
func weigh(a, b, c api.Point) (weights [3]int, found bool) {
	weights = [3]int{cross(b, c), cross(c, a), cross(a, b)}
	if slices.Max(weights[:]) <= 0 {
		weights = [3]int{-weights[0], -weights[1], -weights[2]}
	}
	return weights, slices.Min(weights[:]) >= 0 && weights != [3]int{}
}

// proofOf returns a proof with those of some bounds that have a weight.
func proofOf(times int, bounds, weights []int) Proof {
	p := Proof{Times: times}
	for i, number := range bounds {
		if weights[i] > 0 {
			p.Bounds = append(p.Bounds, number)
			p.Weights = append(p.Weights, weights[i])
		}
	}
	return p
}

// sum returns the sum of a proof that has no error.
func (w *work) sum(p Proof) Bound {
	var list []Bound
	for i, number := range p.Bounds {
		list = append(list, w.bounds[number].times(p.Weights[i]))
	}
	return sum(list...)
}

// proves reports whether a proof proves something for a direction.
func (w *work) proves(p Proof, to api.Point) bool {
	return p.Times >= 1 && w.sum(p).way() == api.Point{X: p.Times * to.X, Y: p.Times * to.Y}
}

// proved returns what a proof proves that does so.
func (w *work) proved(p Proof) api.Ratio { return ratio(w.sum(p).C, p.Times) }

// refutes reports whether a proof refutes all places.
func (w *work) refutes(p Proof) bool {
	all := w.sum(p)
	return p.Times == 0 && all.way() == api.Point{} && all.C < 0
}

// nearest returns the proof of one or two bounds that proves the least for a direction. No proof of more bounds proves
// less; and as the land has bounds on all sides, there is one.
func (w *work) nearest(to api.Point) Proof {
	var best Proof
	for a, b := range pairs(len(w.bounds)) {
		weights, found := weigh(w.bounds[a].way(), w.bounds[b].way(), opposite(to))
		if !found || weights[2] == 0 {
			continue
		}
		p := proofOf(weights[2], []int{a, b}, weights[:2])
		if best.Times == 0 || compare(w.proved(p), w.proved(best)) < 0 {
			best = p
		}
	}
	return best
}

// refutation returns a proof that refutes all places, if there is one. What two opposite bounds refute is found with
// any third one, whose weight is 0.
func (w *work) refutation() (p Proof, found bool) {
search:
	for a, b := range pairs(len(w.bounds)) {
		for c := b + 1; c < len(w.bounds); c++ {
			weights, level := weigh(w.bounds[a].way(), w.bounds[b].way(), w.bounds[c].way())
			all := sum(w.bounds[a].times(weights[0]), w.bounds[b].times(weights[1]), w.bounds[c].times(weights[2]))
			if level && all.C < 0 {
				p, found = proofOf(0, []int{a, b, c}, weights[:]), true
				break search
			}
		}
	}
	return p, found
}
