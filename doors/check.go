package doors

import (
	"slices"

	"almadraba/api"
)

// valid reports whether a trap is valid.
func valid(t api.DoorTrap) bool {
	isGate := func(g api.DoorGate) bool { return isChamber(t, g.A) && isChamber(t, g.B) && g.A != g.B }
	isGroup := func(g api.DoorGroup) bool { return isChamber(t, g.At) && within(g.Fish, 0, api.MaxDoorFish) }
	return within(t.Chambers, 1, api.MaxDoorChambers) &&
		within(t.Turns, 0, api.MaxDoorTurns) && within(t.Hands, 0, api.MaxDoorHands) &&
		len(t.Gates) <= api.MaxDoorGates && each(t.Gates, isGate) &&
		len(t.Groups) <= api.MaxDoorGroups && each(t.Groups, isGroup)
}

// isChamber reports whether a trap has a chamber.
func isChamber(t api.DoorTrap, chamber int) bool {
	return within(chamber, 0, t.Chambers-1)
}

// hasGroup reports whether a trap has a group.
func hasGroup(t api.DoorTrap, group int) bool {
	return within(group, 0, len(t.Groups)-1)
}

// isChange reports whether a list is a change of a valid trap.
func isChange(t api.DoorTrap, change []int) bool {
	before := -1
	for _, gate := range change {
		if !within(gate, before+1, len(t.Gates)-1) {
			return false
		}
		before = gate
	}
	return len(change) <= t.Hands
}

// within reports whether a number is from one to another one.
func within(number, low, high int) bool {
	return low <= number && number <= high
}

// each reports whether something is so of each element of a list.
func each[T any](list []T, is func(T) bool) bool {
	return !slices.ContainsFunc(list, func(element T) bool { return !is(element) })
}
