package treaty

import "limitrophe/api"

// Check reports whether a treaty is valid.
func Check(t Treaty) api.Errno {
	if !allowedCounts(t) {
		return api.ErrCount
	}
	for _, way := range t.Ways {
		if e := checkWay(t, way); e != api.OK {
			return e
		}
	}
	isKind, isPlace, isWord := under(MaxKind+1), under(t.Places), under(len(t.Words))
	switch {
	case !everyMeaning(t, func(m Meaning) bool { return every(m.Kinds, isKind) }):
		return api.ErrValue
	case !everyMeaning(t, func(m Meaning) bool { return every(m.Ends, isPlace) }):
		return api.ErrArg
	case !every(t.Starts, isPlace):
		return api.ErrArg
	case !every(t.Legs, func(leg Leg) bool { return isWord(leg.Word) && (leg.Other == None || isWord(leg.Other)) }):
		return api.ErrArg
	case !everyMeaning(t, func(m Meaning) bool { return increasing(m.Kinds) && increasing(m.Ends) }):
		return api.ErrOrder
	case !increasing(t.Starts):
		return api.ErrOrder
	case countReadings(t) > MaxReadings:
		return api.ErrLarge
	}
	return api.OK
}

// allowedCounts reports whether a treaty has as many of each thing as it may have.
func allowedCounts(t Treaty) bool {
	return between(t.Places, 1, MaxPlaces) &&
		len(t.Ways) <= MaxWays &&
		len(t.Words) <= MaxWords &&
		between(len(t.Starts), 1, t.Places) &&
		len(t.Legs) <= MaxLegs &&
		every(t.Words, func(word []Meaning) bool { return between(len(word), 1, MaxMeanings) })
}

// checkWay returns the error of a way.
func checkWay(t Treaty, way Way) api.Errno {
	isPlace := under(t.Places)
	if !isPlace(way.A) || !isPlace(way.B) || way.A == way.B {
		return api.ErrArg
	}
	if !between(way.Kind, 0, MaxKind) {
		return api.ErrValue
	}
	return api.OK
}

// countReadings returns how many readings there are, for words that have as many meanings as they may have.
func countReadings(t Treaty) int {
	n := 1
	for _, word := range t.Words {
		n *= len(word)
	}
	return n
}

// checkReading returns the error of a treaty, then that of a reading.
func checkReading(t Treaty, reading []int) api.Errno {
	if e := Check(t); e != api.OK {
		return e
	}
	if len(reading) != len(t.Words) {
		return api.ErrArg
	}
	for word, meaning := range reading {
		if !between(meaning, 0, len(t.Words[word])-1) {
			return api.ErrArg
		}
	}
	return api.OK
}

// checkLine returns the error of a line of a valid treaty.
func checkLine(t Treaty, line []int) api.Errno {
	if len(line) != len(t.Legs)+1 || !every(line, under(t.Places)) {
		return api.ErrArg
	}
	return api.OK
}

// every reports whether something holds for every element of a list.
func every[T any](list []T, holds func(T) bool) bool {
	for _, x := range list {
		if !holds(x) {
			return false
		}
	}
	return true
}

// everyMeaning reports whether something holds for every meaning of every word.
func everyMeaning(t Treaty, holds func(Meaning) bool) bool {
	return every(t.Words, func(word []Meaning) bool { return every(word, holds) })
}

// between reports whether a number is from one number to another one.
func between(n, least, most int) bool { return n >= least && n <= most }

// under returns what reports whether a number is from 0 on, and less than an end.
func under(end int) func(int) bool {
	return func(n int) bool { return between(n, 0, end-1) }
}

// increasing reports whether a list is strictly increasing.
func increasing(list []int) bool {
	for i := 1; i < len(list); i++ {
		if list[i-1] >= list[i] {
			return false
		}
	}
	return true
}
