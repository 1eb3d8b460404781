package headman

import (
	"slices"
	"strconv"

	"almadraba/api"
)

// word is what a line can begin with, how many numbers come behind it, and what it does: it asks for something, or changes the town.
type word struct {
	name   string
	many   int
	asks   question
	change func(t api.HeadTown, n []int) (api.HeadTown, bool) // false if it cannot be; whether the town is valid is another matter
}

// clause is a word and the numbers behind it.
type clause struct {
	word
	numbers []int
}

// read returns the clause that some parts of a line are, and whether they are one.
func read(parts []string) (clause, bool) {
	for _, w := range slices.Concat(questions(), changes()) {
		if len(parts) == 1+w.many && parts[0] == w.name {
			numbers, are := numbersOf(parts[1:])
			return clause{w, numbers}, are
		}
	}
	return clause{}, false
}

// numbersOf returns the numbers that some texts are, and whether they are numbers.
func numbersOf(texts []string) ([]int, bool) {
	var list []int
	for _, text := range texts {
		number, is := numberOf(text)
		if !is {
			return nil, false
		}
		list = append(list, number)
	}
	return list, true
}

// numberOf returns the number that a text is, and whether it is one.
func numberOf(text string) (int, bool) {
	const most = 999999 // of 6 digits
	number, e := strconv.Atoi(text)
	if e != nil || !within(number, -most, most) || strconv.Itoa(number) != text { // Atoi reads zeros and signs that may not be there, too
		return 0, false
	}
	return number, true
}

// within reports whether a number is from one to another one.
func within(number, low, high int) bool {
	return low <= number && number <= high
}
