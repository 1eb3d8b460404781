package watch

import (
	"almadraba/api"
	"almadraba/counts"
)

// valid reports whether a book is valid.
func valid(b api.WatchBook) bool {
	return counts.Check(b.Trap) == api.OK && within(b.Drunk, 0, api.MaxCountTimes) && within(b.Run, 0, api.MaxCountTimes) && isGuess(b, b.Sober)
}

// isGuess reports whether a list is times of the trap of a book, strictly ascending.
func isGuess(b api.WatchBook, list []int) bool {
	before := -1
	for _, time := range list {
		if !within(time, before+1, b.Trap.Times-1) {
			return false
		}
		before = time
	}
	return true
}

// hasTime reports whether the trap of a book has a time.
func hasTime(b api.WatchBook, time int) bool {
	return within(time, 0, b.Trap.Times-1)
}

// hasChamber reports whether the trap of a book has a chamber.
func hasChamber(b api.WatchBook, chamber int) bool {
	return within(chamber, 0, b.Trap.Chambers-1)
}

// hasWord reports whether the trap of a book has a word.
func hasWord(b api.WatchBook, word int) bool {
	return within(word, 0, len(b.Trap.Words)-1)
}

// within reports whether a number is from one to another one.
func within(number, low, high int) bool {
	return low <= number && number <= high
}
