package headman

import (
	"slices"

	"almadraba/api"
)

// longer returns a list with one element more, in memory of its own, as a change can be refused.
func longer[T any](list []T, more T) []T {
	return append(slices.Clone(list), more)
}

// without returns a list without one element, in memory of its own.
func without[T any](list []T, at int) []T {
	return slices.Concat(list[:at], list[at+1:])
}

// replaced returns a list with another element in the place of one, in memory of its own.
func replaced[T any](list []T, at int, other T) []T {
	list = slices.Clone(list)
	list[at] = other
	return list
}

// copied returns a town in memory of its own.
func copied(t api.HeadTown) api.HeadTown {
	t.Net.Grips = slices.Clone(t.Net.Grips)
	t.Net.Anchors = slices.Clone(t.Net.Anchors)
	t.Net.Walls = slices.Clone(t.Net.Walls)
	t.Torn.Holes = slices.Clone(t.Torn.Holes)
	t.Torn.Pairs = slices.Clone(t.Torn.Pairs)
	t.House.Kinds = slices.Clone(t.House.Kinds)
	t.House.Parts = slices.Clone(t.House.Parts)
	t.House.Barrels = slices.Clone(t.House.Barrels)
	return t
}
