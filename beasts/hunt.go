package beasts

import "almadraba/api"

// hunt is a trap out of which the beast is led.
type hunt struct {
	api.BeastTrap
	counts int              // as how many steps each step counts
	costs  map[belief]price // what the best plan costs, for each belief that has one
}

// through returns where the beast is when a door was opened, if it was at a place.
func (h hunt) through(at, door int) int {
	switch d := h.Doors[door]; at {
	case api.BeastSea: // it stays there, also if the door leads to the sea
		return at
	case d.A:
		return d.B
	case d.B:
		return d.A
	}
	return at
}

// moved returns where the beast can be when a door was opened.
func (h hunt) moved(now belief, door int) belief {
	var next belief
	for at := range now.places {
		next |= beliefOf(h.through(at, door))
	}
	return next
}

// after returns where the beast is behind a step, if it was at a place.
func (h hunt) after(step api.BeastStep, at int) int {
	if step.Kind == api.BeastOpen {
		return h.through(at, step.At)
	}
	return at
}

// behind returns where the beast can be behind a step, for each answer; behind a door that is opened, it is always 0.
func (h hunt) behind(step api.BeastStep, now belief) [2]belief {
	if step.Kind == api.BeastOpen {
		return [2]belief{h.moved(now, step.At)}
	}
	there := now & beliefOf(step.At)
	return [2]belief{now &^ there, there}
}

// fish returns how many fish are lost by a step.
func (h hunt) fish(step api.BeastStep) int {
	if step.Kind == api.BeastOpen {
		return h.Doors[step.At].Cost + h.Eats
	}
	return h.Look + h.Eats
}

// lost returns how many fish are lost by some steps.
func (h hunt) lost(steps []api.BeastStep) int {
	sum := 0
	for _, step := range steps {
		sum += h.fish(step)
	}
	return sum
}

// steps yields all steps: the doors that are opened, and then the looks, each by their numbers.
func (h hunt) steps(yield func(api.BeastStep) bool) {
	for door := range h.Doors {
		if !yield(api.BeastStep{Kind: api.BeastOpen, At: door}) {
			return
		}
	}
	for _, chamber := range h.Seen {
		if !yield(api.BeastStep{Kind: api.BeastLook, At: chamber}) {
			return
		}
	}
}

// answer returns the answer to a step, if the beast is at a place; to a door that is opened, it is always 0.
func answer(step api.BeastStep, at int) int {
	if step.Kind == api.BeastLook && step.At == at {
		return 1
	}
	return 0
}
