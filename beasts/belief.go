package beasts

import (
	"math/bits"
	"slices"

	"almadraba/api"
)

// belief is the places in which the beast can be: a bit for each, the lowest one for the sea.
type belief uint8

// beliefOf returns the belief that the beast is in one of some places.
func beliefOf(places ...int) belief {
	var b belief
	for _, place := range places {
		b |= 1 << (place - api.BeastSea)
	}
	return b
}

// places yields all places of a belief, ascending.
func (b belief) places(yield func(int) bool) {
	for rest := b; rest != 0; rest &= rest - 1 {
		if !yield(bits.TrailingZeros8(uint8(rest)) + api.BeastSea) {
			return
		}
	}
}

// list returns all places of a belief, ascending.
func (b belief) list() []int {
	return slices.Collect(b.places)
}
