package headman

import (
	"strconv"
	"strings"

	"almadraba/api"
)

// work is the town and the orders as the lines so far left them. The lists of the town are shared with towns before it, and never changed.
type work struct {
	town   api.HeadTown
	given  int     // how many orders were given
	orders []order // those that stand, by their numbers
}

// hear does a line, and then the orders that hold, and returns the answer.
func (w *work) hear(line string) string {
	answer := w.own(line)
	for _, news := range w.look() {
		answer += " " + news
	}
	return answer
}

// own does a line, and returns its own answer.
func (w *work) own(line string) string {
	if o, is := readOrder(line); is {
		return told(w.give(o))
	}
	parts := strings.Split(line, " ")
	if number, is := readForget(parts); is {
		return told(w.forget(number))
	}
	c, is := read(parts)
	switch {
	case !is:
		return "what"
	case c.asks != nil:
		return c.asks.answer(w.town, c.numbers)
	}
	return told(w.do(c))
}

// told returns the answer to what was done or refused.
func told(done bool) string {
	if done {
		return "ok"
	}
	return "no"
}

// do changes the town, unless that is refused, and reports whether it did.
func (w *work) do(c clause) bool {
	after, can := c.change(w.town, c.numbers)
	if !can || Check(after) != api.OK {
		return false
	}
	w.town = after
	return true
}

// give gives an order, unless that is refused, and reports whether it did.
func (w *work) give(o order) bool {
	if len(w.orders) == api.MaxHeadOrders {
		return false
	}
	o.number = w.given
	w.given++
	w.orders = longer(w.orders, o)
	return true
}

// forget takes back the order with a number, unless that is refused, and reports whether it did.
func (w *work) forget(number int) bool {
	for at, o := range w.orders {
		if o.number == number {
			w.orders = without(w.orders, at)
			return true
		}
	}
	return false
}

// look does the first order that holds, and looks anew until none holds; it returns what is answered of each.
func (w *work) look() []string {
	var news []string
anew:
	for {
		for at, o := range w.orders {
			if o.holds(w.town) {
				w.orders = without(w.orders, at)
				news = append(news, strconv.Itoa(o.number)+":"+told(w.do(o.deed)))
				continue anew
			}
		}
		return news
	}
}

// left returns the lines by which the orders that stand were given.
func (w *work) left() []string {
	var lines []string
	for _, o := range w.orders {
		lines = append(lines, o.line)
	}
	return lines
}
