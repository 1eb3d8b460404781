package sales

import (
	"slices"

	"almadraba/api"
	"almadraba/salt"
)

// barrels says of each barrel whether it is one of some.
type barrels [api.MaxSaltBarrels]bool

// fair is a fair at work.
type fair struct {
	api.SaleFair
	ready  barrels
	brings map[barrels]int // what the best sales bring if these are ready, as far as it was asked: many days and packings are alike
}

// open returns a valid fair at work.
func open(f api.SaleFair) fair {
	return fair{SaleFair: f, brings: map[barrels]int{}}.with(f.Pack, f.Day)
}

// with returns the fair with another packing, on another day.
func (f fair) with(pack []int, day int) fair {
	f.Pack, f.Day = pack, day
	for barrel := range f.House.Barrels {
		_, _, days, _ := salt.Barrel(f.House, pack, barrel)
		f.ready[barrel] = days <= day && slices.Contains(pack, barrel)
	}
	return f
}

// readies returns all barrels that are ready, ascending.
func (f fair) readies() []int {
	var list []int
	for barrel, is := range f.ready {
		if is {
			list = append(list, barrel)
		}
	}
	return list
}

// isSale reports whether a list of any numbers is a sale.
func (f fair) isSale(list []int) bool {
	for i, bid := range list {
		if !hasBid(f.SaleFair, bid) || !f.fits(list[:i], bid) {
			return false
		}
	}
	return true
}

// fits reports whether a sale with a bid behind it is one, too.
func (f fair) fits(sale []int, bid int) bool {
	b := f.Bids[bid]
	apart := func(other int) bool {
		o := f.Bids[other]
		in := func(barrel int) bool { return slices.Contains(o.Barrels, barrel) }
		return other < bid && o.Buyer != b.Buyer && !slices.ContainsFunc(b.Barrels, in)
	}
	return each(sale, apart) && each(b.Barrels, func(barrel int) bool { return f.ready[barrel] })
}

// pence returns what a sale brings.
func (f fair) pence(sale []int) int {
	sum := 0
	for _, bid := range sale {
		sum += f.Bids[bid].Pence
	}
	return sum
}
