package salt

import (
	"slices"

	"almadraba/api"
)

// house is a house at work.
type house api.SaltHouse

// load is what the parts of a barrel are together.
type load struct {
	parts, pounds int
	strong, days  int // the greatest Salt and the greatest Days of their kinds
}

// loads has the load of each barrel.
type loads [api.MaxSaltBarrels]load

// fill returns a load with any number of parts more.
func (h house) fill(l load, parts ...int) load {
	for _, part := range parts {
		p := h.Parts[part]
		kind := h.Kinds[p.Kind]
		l.parts++
		l.pounds += p.Pounds
		l.strong = max(l.strong, kind.Salt)
		l.days = max(l.days, kind.Days)
	}
	return l
}

// put returns the loads with one part more in a barrel, and whether this barrel is not over.
func (h house) put(all loads, part, barrel int) (loads, bool) {
	all[barrel] = h.fill(all[barrel], part)
	return all, h.needs(all[barrel]) <= h.Barrels[barrel]
}

// laid returns the loads if each part is in the barrel that a list of any numbers says, and whether this is a packing.
func (h house) laid(list []int) (loads, bool) {
	var all loads
	if len(list) != len(h.Parts) {
		return all, false
	}
	for part, barrel := range list {
		if !h.hasBarrel(barrel) {
			return all, false
		}
		more, fits := h.put(all, part, barrel)
		if !fits { // and with more parts it is still over
			return all, false
		}
		all = more
	}
	return all, true
}

// saltOf returns the salt of a barrel with a load.
func (h house) saltOf(l load) int {
	if l.parts == 0 {
		return 0
	}
	return h.Floor + (l.pounds*l.strong+9)/10 // rounded up
}

// needs returns the least size of a barrel that is not over with a load.
func (h house) needs(l load) int {
	return l.pounds + h.saltOf(l)
}

// salt returns the salt of all barrels together.
func (h house) salt(all loads) int {
	sum := 0
	for _, l := range all {
		sum += h.saltOf(l)
	}
	return sum
}

// used returns how many barrels have parts.
func (h house) used(all loads) int {
	many := 0
	for _, l := range all {
		if l.parts > 0 {
			many++
		}
	}
	return many
}

// last returns the least size with which the last barrel is not over.
func (h house) last(all loads) int {
	return h.needs(all[len(h.Barrels)-1])
}

// by returns how many pounds are in barrels that keep after at most so many days.
func (all loads) by(day int) int {
	sum := 0
	for _, l := range all {
		if l.days <= day {
			sum += l.pounds
		}
	}
	return sum
}

// pounds returns how many pounds all parts of a house have.
func (h house) pounds() int {
	sum := 0
	for _, p := range h.Parts {
		sum += p.Pounds
	}
	return sum
}

// withBarrel returns the house with one more barrel.
func (h house) withBarrel(size int) house {
	h.Barrels = append(slices.Clone(h.Barrels), size)
	return h
}
