package cuts

import (
	"slices"

	"almadraba/api"
)

// valid reports whether a table is valid.
func (t table) valid() bool {
	if len(t) > api.MaxCutParts {
		return false
	}
	for number, p := range t {
		of := p.Of == api.CutNone || 0 <= p.Of && p.Of < number
		if !of || !isSpan(p.Weight) || !isSpan(p.Waste) || p.Pence < 0 || p.Pence > api.MaxCutPence {
			return false
		}
	}
	return true
}

// has reports whether a table has a part.
func (t table) has(part int) bool {
	return 0 <= part && part < len(t)
}

// isTruth reports whether a list of any numbers is a truth of a valid table.
func (t table) isTruth(weights []int) bool {
	if len(weights) != len(t) {
		return false
	}
	lost := slices.Clone(weights)
	for part, weight := range weights {
		if !within(t[part].Weight, weight) {
			return false
		}
		if of := t[part].Of; of != api.CutNone {
			lost[of] -= weight
		}
	}
	for part, pounds := range lost {
		if !within(t.waste(part), pounds) {
			return false
		}
	}
	return true
}

// isCut reports whether a list of any numbers is a cut of a valid table.
func (t table) isCut(list []int) bool {
	for i, part := range list {
		if !t.has(part) || i > 0 && part <= list[i-1] || !t.fits(part, list[:i]) {
			return false
		}
	}
	return true
}

// isSpan reports whether a span has numbers from 0 to MaxCutWeight, one at least.
func isSpan(s api.Span) bool {
	return 0 <= s.Low && s.Low <= s.High && s.High <= api.MaxCutWeight
}

// within reports whether a number is one of a span.
func within(s api.Span, number int) bool {
	return s.Low <= number && number <= s.High
}
