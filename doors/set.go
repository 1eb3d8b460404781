package doors

import (
	"math/bits"
	"slices"
)

// set is some gates, or some chambers: a bit for each.
type set uint8

// setOf returns the set of the numbers of a list.
func setOf(numbers ...int) set {
	var s set
	for _, number := range numbers {
		s |= 1 << number
	}
	return s
}

// has reports whether a number is in a set.
func (s set) has(number int) bool {
	return s&setOf(number) != 0
}

// count returns how many numbers are in a set.
func (s set) count() int {
	return bits.OnesCount8(uint8(s))
}

// numbers yields all numbers of a set, ascending.
func (s set) numbers(yield func(int) bool) {
	for rest := s; rest != 0; rest &= rest - 1 {
		if !yield(bits.TrailingZeros8(uint8(rest))) {
			return
		}
	}
}

// list returns all numbers of a set, ascending.
func (s set) list() []int {
	return slices.Collect(s.numbers)
}
