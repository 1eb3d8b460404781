package cuts

import (
	"math"
	"slices"

	"almadraba/api"
)

// What is lost of a part is like one more of its pieces. So all that is asked of partings is what they cost at least if
// each part costs something by its weight, and that can be said part by part, without a search.

// cannot is what it costs if something cannot be.
const cannot = math.MaxInt

// costing returns what a part costs if it weighs so much.
type costing func(part, weight int) int

// costs has the least cost for each weight.
type costs [api.MaxCutWeight + 1]int

// free returns the costs of what can have any weight of a span, and costs nothing.
func free(s api.Span) costs {
	var c costs
	for weight := range c {
		if !within(s, weight) {
			c[weight] = cannot
		}
	}
	return c
}

// with returns the costs if a part costs something more by its weight.
func (c costs) with(part int, cost costing) costs {
	for weight := range c {
		c[weight] = plus(c[weight], cost(part, weight))
	}
	return c
}

// beside returns the costs of two things by what they weigh together.
func (c costs) beside(other costs) costs {
	both := free(api.Span{High: -1}) // as yet no weight can be
	for a, cost := range c {
		for b, more := range other[:len(other)-a] {
			both[a+b] = min(both[a+b], plus(cost, more))
		}
	}
	return both
}

// plus returns two costs together.
func plus(a, b int) int {
	if a == cannot || b == cannot {
		return cannot
	}
	return a + b
}

// least returns the least sum of what all parts cost in a parting; cannot if there is none.
func (t table) least(cost costing) int {
	var inside [api.MaxCutParts]costs // of what is lost of each part, and of its pieces, by what they weigh together
	for part := range t {
		inside[part] = free(t.waste(part))
	}
	sum := 0
	for part, p := range slices.Backward(t) { // the pieces of a part come behind it
		all := inside[part].with(part, cost)
		if p.Of == api.CutNone {
			sum = plus(sum, slices.Min(all[:]))
		} else {
			inside[p.Of] = inside[p.Of].beside(all)
		}
	}
	return sum
}
