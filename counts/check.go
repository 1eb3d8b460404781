package counts

import (
	"slices"

	"almadraba/api"
)

// valid reports whether a trap is valid.
func valid(t api.CountTrap) bool {
	if t.Chambers < 1 || t.Chambers > api.MaxCountChambers || t.Times < 1 || t.Times > api.MaxCountTimes {
		return false
	}
	if len(t.Open) != t.Times-1 || len(t.Words) > api.MaxCountWords {
		return false
	}
	for _, doors := range t.Open {
		if !ascending(doors, t.Chambers) {
			return false
		}
	}
	for _, word := range t.Words {
		if !fits(t, word) {
			return false
		}
	}
	return true
}

// ascending reports whether a list has numbers from 0 to below an end, strictly ascending.
func ascending(list []int, end int) bool {
	before := -1
	for _, n := range list {
		if n <= before || n >= end {
			return false
		}
		before = n
	}
	return true
}

// fits reports whether a word is one as those of a valid trap are.
func fits(t api.CountTrap, word api.CountWord) bool {
	return isPlace(t, word.Time, word.Chamber) && 0 <= word.Low && word.Low <= word.High && word.High <= api.MaxCountFish
}

// isPlace reports whether a trap has a time and a chamber.
func isPlace(t api.CountTrap, time, chamber int) bool {
	return isTime(t, time) && 0 <= chamber && chamber < t.Chambers
}

// isTime reports whether a trap has a time.
func isTime(t api.CountTrap, time int) bool {
	return 0 <= time && time < t.Times
}

// isTruth reports whether numbers are a truth of a valid trap.
func isTruth(t api.CountTrap, numbers [][]int) bool {
	if len(numbers) != t.Times {
		return false
	}
	for _, list := range numbers {
		if len(list) != t.Chambers || !roomy(list) {
			return false
		}
	}
	for _, word := range t.Words {
		fish := numbers[word.Time][word.Chamber]
		if fish < word.Low || fish > word.High {
			return false
		}
	}
	for step, open := range t.Open {
		if !gone(numbers[step], numbers[step+1], open) {
			return false
		}
	}
	return true
}

// roomy reports whether there are at least 0 fish in each chamber, and at most MaxCountFish in all.
func roomy(list []int) bool {
	room := api.MaxCountFish
	for _, fish := range list {
		if fish < 0 || fish > room { // what is left is compared, as a sum of any numbers can exceed an int
			return false
		}
		room -= fish
	}
	return true
}

// gone reports whether fish have only gone on, through doors that were open.
func gone(before, after, open []int) bool {
	pass := 0
	for door := len(before) - 1; door >= 0; door-- {
		pass += after[door] - before[door]
		if pass < 0 || pass > 0 && !slices.Contains(open, door) {
			return false
		}
	}
	return true
}
