package headman

import (
	"strings"

	"almadraba/api"
)

// order is a change of the town that waits for something, its number, and the line by which it was given.
type order struct {
	wait
	deed   clause
	number int
	line   string
}

// wait is what an order waits for: that a function returns a number that is less than, equal to, or greater than a limit.
type wait struct {
	asks    forNumber
	numbers []int
	sign    string
	limit   int
}

// holds reports whether what is waited for is so.
func (w wait) holds(t api.HeadTown) bool {
	number, e := w.asks(t, w.numbers)
	if e != api.OK {
		return false
	}
	switch w.sign {
	case "<":
		return number < w.limit
	case "=":
		return number == w.limit
	}
	return number > w.limit
}

// readOrder returns the order that a line gives, without its number, and whether it gives one.
func readOrder(line string) (order, bool) {
	first, last, _ := strings.Cut(line, " then ")
	until, waits := readWait(strings.Split(first, " "))
	deed, is := read(strings.Split(last, " "))
	return order{wait: until, deed: deed, line: line}, waits && is && deed.change != nil
}

// readWait returns what an order waits for that begins with some parts of a line, and whether one can.
func readWait(parts []string) (wait, bool) {
	sign := len(parts) - 2
	if sign < 1 || parts[0] != "when" {
		return wait{}, false
	}
	asked, is := read(parts[1:sign])
	limit, isNumber := numberOf(parts[sign+1])
	if !is || !isNumber || !isSign(parts[sign]) {
		return wait{}, false
	}
	asks, counts := asked.asks.(forNumber)
	return wait{asks, asked.numbers, parts[sign], limit}, counts
}

// isSign reports whether a part of a line says how two numbers are compared.
func isSign(part string) bool {
	return part == "<" || part == "=" || part == ">"
}

// readForget returns the number of the order that a line takes back, and whether it takes one back.
func readForget(parts []string) (int, bool) {
	if len(parts) != 2 || parts[0] != "forget" {
		return 0, false
	}
	return numberOf(parts[1])
}
