package sheet

import "limitrophe/api"

// ratio returns a fraction in lowest terms, of a D of at least 1.
func ratio(n, d int) api.Ratio {
	shared, rest := d, max(n, -n)
	for rest != 0 {
		shared, rest = rest, shared%rest
	}
	return api.Ratio{N: n / shared, D: d / shared}
}

// whole returns a whole number as a fraction.
func whole(n int) api.Ratio { return api.Ratio{N: n, D: 1} }

// minus returns a fraction less another one.
func minus(a, b api.Ratio) api.Ratio { return ratio(a.N*b.D-b.N*a.D, a.D*b.D) }

// size returns a fraction without its sign.
func size(a api.Ratio) api.Ratio { return api.Ratio{N: max(a.N, -a.N), D: a.D} }

// less reports whether a fraction is less than another one.
func less(a, b api.Ratio) bool { return a.N*b.D < b.N*a.D }

// greatest returns the greatest of several fractions.
func greatest(first api.Ratio, others ...api.Ratio) api.Ratio {
	for _, other := range others {
		if less(first, other) {
			first = other
		}
	}
	return first
}
