package beasts

import (
	"slices"

	"almadraba/api"
)

// valid reports whether a trap is valid.
func valid(b api.BeastTrap) bool {
	isDoor := func(d api.BeastDoor) bool {
		return isChamber(b, d.A) && isPlace(b, d.B) && d.A != d.B && within(d.Cost, 0, api.MaxBeastCost)
	}
	return within(b.Chambers, 1, api.MaxBeastChambers) &&
		len(b.Doors) <= api.MaxBeastDoors && each(b.Doors, isDoor) &&
		ascending(b.Seen, 0, b.Chambers-1) &&
		within(b.Look, 0, api.MaxBeastCost) && within(b.Eats, 1, api.MaxBeastEats) &&
		len(b.Places) > 0 && ascending(b.Places, 0, b.Chambers-1)
}

// isChamber reports whether a trap has a chamber.
func isChamber(b api.BeastTrap, chamber int) bool {
	return within(chamber, 0, b.Chambers-1)
}

// isPlace reports whether a place is a chamber of a trap, or the sea.
func isPlace(b api.BeastTrap, place int) bool {
	return place == api.BeastSea || isChamber(b, place)
}

// hasDoor reports whether a trap has a door.
func hasDoor(b api.BeastTrap, door int) bool {
	return within(door, 0, len(b.Doors)-1)
}

// isStep reports whether a step can be done in a trap.
func isStep(b api.BeastTrap, step api.BeastStep) bool {
	switch step.Kind {
	case api.BeastOpen:
		return hasDoor(b, step.At)
	case api.BeastLook:
		return slices.Contains(b.Seen, step.At)
	}
	return false
}

// areAnswers reports whether a list has an answer to each look.
func areAnswers(answers []int, steps []api.BeastStep) bool {
	looks := 0
	for _, step := range steps {
		if step.Kind == api.BeastLook {
			looks++
		}
	}
	isAnswer := func(answer int) bool { return within(answer, 0, 1) }
	return len(answers) == looks && each(answers, isAnswer)
}

// ascending reports whether a list is strictly ascending numbers from one to another one.
func ascending(list []int, low, high int) bool {
	for _, number := range list {
		if !within(number, low, high) {
			return false
		}
		low = number + 1
	}
	return true
}

// within reports whether a number is from one to another one.
func within(number, low, high int) bool {
	return low <= number && number <= high
}

// each reports whether something is so of each element of a list.
func each[T any](list []T, is func(T) bool) bool {
	return !slices.ContainsFunc(list, func(element T) bool { return !is(element) })
}
