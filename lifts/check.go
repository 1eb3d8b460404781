package lifts

import (
	"slices"

	"almadraba/api"
)

// valid reports whether a sea is valid.
func valid(s api.LiftSea) bool {
	isPlace := func(place api.Span) bool { return isSpan(place, api.LiftParts) }
	isBoat := func(b api.LiftBoat) bool {
		return upTo(b.Carry, api.MaxLiftCarry) && upTo(b.Pence, api.MaxLiftPence)
	}
	return isSpan(s.Weight, api.MaxLiftWeight) &&
		len(s.Places) <= api.MaxLiftPlaces && each(s.Places, isPlace) &&
		within(together(s.Places), api.LiftParts) &&
		len(s.Boats) <= api.MaxLiftBoats && each(s.Boats, isBoat)
}

// isTruth reports whether a weight and a list of any numbers are a truth of a valid sea.
func isTruth(s api.LiftSea, weight int, parts []int) bool {
	if !within(s.Weight, weight) || len(parts) != len(s.Places) {
		return false
	}
	sum := 0
	for place, many := range parts {
		if !within(s.Places[place], many) {
			return false
		}
		sum += many
	}
	return sum == api.LiftParts
}

// isCrew reports whether a list of any numbers is a crew of a valid sea.
func isCrew(s api.LiftSea, list []int) bool {
	if len(list) != len(s.Places) {
		return false
	}
	for place, boat := range list {
		if !upTo(boat, len(s.Boats)-1) || slices.Contains(list[:place], boat) {
			return false
		}
	}
	return true
}

// hasPlace reports whether a sea has a place.
func hasPlace(s api.LiftSea, place int) bool {
	return upTo(place, len(s.Places)-1)
}

// isSpan reports whether a span has numbers from 0 to an end, one at least.
func isSpan(s api.Span, end int) bool {
	return 0 <= s.Low && s.Low <= s.High && s.High <= end
}

// upTo reports whether a number is from 0 to an end.
func upTo(number, end int) bool {
	return 0 <= number && number <= end
}

// within reports whether a number is one of a span.
func within(s api.Span, number int) bool {
	return s.Low <= number && number <= s.High
}

// each reports whether something is so of each element of a list.
func each[T any](list []T, is func(T) bool) bool {
	return !slices.ContainsFunc(list, func(element T) bool { return !is(element) })
}
