package salt

import (
	"slices"

	"almadraba/api"
)

// valid reports whether a house is valid.
func (h house) valid() bool {
	isKind := func(k api.SaltKind) bool {
		return within(k.Salt, 0, api.MaxSaltStrong) && within(k.Days, 0, api.MaxSaltDays)
	}
	isPart := func(p api.SaltPart) bool {
		return within(p.Kind, 0, len(h.Kinds)-1) && within(p.Pounds, 0, api.MaxSaltPounds)
	}
	isSize := func(size int) bool { return within(size, 0, api.MaxSaltSize) }
	return len(h.Kinds) <= api.MaxSaltKinds && each(h.Kinds, isKind) &&
		within(h.Floor, 0, api.MaxSaltStrong) &&
		len(h.Parts) <= api.MaxSaltParts && each(h.Parts, isPart) &&
		len(h.Barrels) <= api.MaxSaltBarrels && each(h.Barrels, isSize)
}

// hasPart reports whether a house has a part.
func (h house) hasPart(part int) bool {
	return within(part, 0, len(h.Parts)-1)
}

// hasBarrel reports whether a house has a barrel.
func (h house) hasBarrel(barrel int) bool {
	return within(barrel, 0, len(h.Barrels)-1)
}

// areParts reports whether a list of any numbers is parts of a valid house, strictly ascending.
func (h house) areParts(list []int) bool {
	for i, part := range list {
		if !h.hasPart(part) || i > 0 && part <= list[i-1] {
			return false
		}
	}
	return true
}

// within reports whether a number is from one to another one.
func within(number, low, high int) bool {
	return low <= number && number <= high
}

// each reports whether something is so of each element of a list.
func each[T any](list []T, is func(T) bool) bool {
	return !slices.ContainsFunc(list, func(element T) bool { return !is(element) })
}
