package cuts

import (
	"slices"

	"almadraba/api"
)

// cuts yields all cuts in their order, each in memory of its own.
func (t table) cuts(yield func([]int) bool) {
	for many := range len(t) + 1 {
		if !t.longer(nil, many, yield) {
			return
		}
	}
}

// longer yields all cuts that begin with a cut and have so many parts more, and reports whether still more are wanted.
func (t table) longer(cut []int, many int, yield func([]int) bool) bool {
	if many == 0 {
		return yield(cut)
	}
	next := 0
	if len(cut) > 0 {
		next = cut[len(cut)-1] + 1
	}
	for ; next < len(t); next++ {
		if t.fits(next, cut) && !t.longer(append(cut[:len(cut):len(cut)], next), many-1, yield) {
			return false
		}
	}
	return true
}

// best returns the first cut whose least price is the greatest, and this price; ErrNone if there is no truth.
func (t table) best() ([]int, int, api.Errno) {
	var first []int
	greatest := -1
	for cut := range t.cuts {
		price, e := t.between(t.sold(cut))
		if e != api.OK {
			return nil, 0, e
		}
		if price.Low > greatest {
			first, greatest = cut, price.Low
		}
	}
	return first, greatest, api.OK
}

// dearer returns the table with a penny more for each pound of a part.
func (t table) dearer(part int) table {
	t = slices.Clone(t)
	t[part].Pence++
	return t
}
