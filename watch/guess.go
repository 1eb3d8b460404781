package watch

import (
	"slices"

	"almadraba/api"
)

// guess is the times at which the watchman was drunk, strictly ascending.
type guess []int

// has reports whether he was drunk at a time.
func (g guess) has(time int) bool {
	return slices.Contains(g, time)
}

// run returns at how many times one behind the other he was drunk at the most.
func (g guess) run() int {
	longest, run := 0, 0
	for _, time := range g {
		if !g.has(time - 1) {
			run = 0
		}
		run++
		longest = max(longest, run)
	}
	return longest
}

// story is a guess that can be, and the trap of it, which has a truth.
type story struct {
	guess
	trap api.CountTrap
}

// lists returns all strictly ascending lists of numbers from 0 to below an end: those of fewer numbers first, and those of as many compared number by number.
func lists(end int) [][]int {
	all := [][]int{nil}
	for at := range 1 << end { // there are so many, each of which comes from one before it, in this order
		list := all[at]
		for next := range end {
			if len(list) == 0 || list[len(list)-1] < next {
				all = append(all, append(list[:len(list):len(list)], next)) // the others that begin like it must not share its memory
			}
		}
	}
	return all
}
