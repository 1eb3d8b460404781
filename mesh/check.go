package mesh

import (
	"slices"

	"almadraba/api"
)

// valid reports whether a net is valid.
func valid(n api.MeshNet) bool {
	isHole := func(h api.MeshHole) bool {
		return within(h.From, 0, api.MaxMeshHour) && within(h.Hours, 1, api.MaxMeshHours) &&
			within(h.Rate.Low, 0, h.Rate.High) && h.Rate.High <= api.MaxMeshRate
	}
	isPair := func(p api.MeshPair) bool { return hasHole(n, p.A) && hasHole(n, p.B) }
	return within(n.Menders, 1, api.MaxMeshMenders) &&
		len(n.Holes) <= api.MaxMeshHoles && each(n.Holes, isHole) &&
		len(n.Pairs) <= api.MaxMeshPairs && each(n.Pairs, isPair) &&
		plan{n}.can()
}

// hasHole reports whether a net has a hole.
func hasHole(n api.MeshNet, hole int) bool {
	return within(hole, 0, len(n.Holes)-1)
}

// within reports whether a number is from one to another one.
func within(number, low, high int) bool {
	return low <= number && number <= high
}

// each reports whether something is so of each element of a list.
func each[T any](list []T, is func(T) bool) bool {
	return !slices.ContainsFunc(list, func(element T) bool { return !is(element) })
}
