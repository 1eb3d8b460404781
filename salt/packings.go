package salt

import (
	"math"

	"almadraba/api"
)

// packings yields all packings, each with its loads; if they are compared number by number, the first one comes first.
// The list is in the same memory each time.
func (h house) packings(yield func([]int, loads) bool) {
	h.longer(make([]int, 0, len(h.Parts)), loads{}, yield)
}

// longer yields all packings that begin with a list, whose loads are given, and reports whether still more are wanted.
func (h house) longer(list []int, all loads, yield func([]int, loads) bool) bool {
	part := len(list)
	if part == len(h.Parts) {
		return yield(list, all)
	}
	for barrel := range h.Barrels {
		more, fits := h.put(all, part, barrel) // what is over is still over with more parts
		if fits && !h.longer(append(list, barrel), more, yield) {
			return false
		}
	}
	return true
}

// can reports whether there is a packing.
func (h house) can() bool {
	for range h.packings {
		return true
	}
	return false
}

// best returns the first of the packings of which a number is the least, and this number; ErrNone if there is no packing.
func (h house) best(number func(house, loads) int) ([]int, int, api.Errno) {
	if !h.can() {
		return nil, 0, api.ErrNone
	}
	first, least := make([]int, len(h.Parts)), math.MaxInt
	for pack, all := range h.packings {
		if is := number(h, all); is < least {
			copy(first, pack)
			least = is
		}
	}
	return first, least, api.OK
}

// barrels returns all barrels, ascending, of which something is so in some packing; ErrNone if there is no packing.
func (h house) barrels(is func(pack []int, all loads, barrel int) bool) ([]int, api.Errno) {
	if !h.can() {
		return nil, api.ErrNone
	}
	var found [api.MaxSaltBarrels]bool
	for pack, all := range h.packings {
		for barrel := range h.Barrels {
			found[barrel] = found[barrel] || is(pack, all, barrel)
		}
	}
	var list []int
	for barrel := range h.Barrels {
		if found[barrel] {
			list = append(list, barrel)
		}
	}
	return list, api.OK
}

// early returns the most pounds that keep by a day in a packing; ErrNone if there is no packing.
func (h house) early(day int) (int, api.Errno) {
	if !h.can() {
		return 0, api.ErrNone
	}
	most := 0
	for _, all := range h.packings {
		most = max(most, all.by(day))
	}
	return most, api.OK
}

// chosen yields the house with each choice of its parts, the others left out.
func (h house) chosen(yield func(house) bool) {
	all := h.Parts
	for choice := range 1 << len(all) {
		h.Parts = nil
		for part, p := range all {
			if choice>>part&1 == 1 {
				h.Parts = append(h.Parts, p)
			}
		}
		if !yield(h) {
			return
		}
	}
}

// stock returns the most pounds of parts that can be laid down with at most so much salt.
func (h house) stock(salt int) int {
	most := 0
	for some := range h.chosen {
		if _, least, e := some.best(house.salt); e == api.OK && least <= salt {
			most = max(most, some.pounds())
		}
	}
	return most
}

// buy returns the least size of one more barrel with which there is a packing, or ErrMany or ErrNone.
func (h house) buy() (int, api.Errno) {
	if h.can() {
		return 0, api.OK
	}
	if len(h.Barrels) == api.MaxSaltBarrels {
		return 0, api.ErrMany
	}
	_, size, e := h.withBarrel(api.MaxSaltSize).best(house.last) // each packing with a lesser barrel is one with this one
	return size, e
}
