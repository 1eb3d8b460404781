package sales

import (
	"slices"

	"almadraba/salt"
)

// packings yields all packings of the house; if they are compared number by number, the first one comes first.
func (f fair) packings(yield func([]int) bool) {
	parts, barrels := len(f.House.Parts), len(f.House.Barrels)
	many := 1
	for range parts {
		many *= barrels
	}
	for number := range many {
		pack := digits(number, barrels, parts)
		if is, _ := salt.Good(f.House, pack); is && !yield(pack) {
			return
		}
	}
}

// digits returns so many digits of a number to a base, the last one of them for what is 1.
func digits(number, base, many int) []int {
	list := make([]int, many)
	for place := range slices.Backward(list) {
		list[place] = number % base
		number /= base
	}
	return list
}
