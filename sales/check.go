package sales

import (
	"slices"

	"almadraba/api"
	"almadraba/salt"
)

// valid reports whether a fair is valid.
func valid(f api.SaleFair) bool {
	isBid := func(b api.SaleBid) bool {
		return hasBuyer(f, b.Buyer) && within(b.Pence, 0, api.MaxSalePence) &&
			len(b.Barrels) > 0 && areBarrels(f.House, b.Barrels)
	}
	packed, _ := salt.Good(f.House, f.Pack) // which it is not either if the house is not valid
	return packed && within(f.Day, 0, api.MaxSaltDays) && within(f.Buyers, 0, api.MaxSaleBuyers) &&
		len(f.Bids) <= api.MaxSaleBids && each(f.Bids, isBid)
}

// areBarrels reports whether a list of any numbers is barrels of a house, strictly ascending.
func areBarrels(h api.SaltHouse, list []int) bool {
	for i, barrel := range list {
		if !within(barrel, 0, len(h.Barrels)-1) || i > 0 && barrel <= list[i-1] {
			return false
		}
	}
	return true
}

// hasBuyer reports whether a fair has a buyer.
func hasBuyer(f api.SaleFair, buyer int) bool {
	return 0 <= buyer && buyer < f.Buyers
}

// hasBid reports whether a fair has a bid.
func hasBid(f api.SaleFair, bid int) bool {
	return within(bid, 0, len(f.Bids)-1)
}

// within reports whether a number is from one to another one.
func within(number, low, high int) bool {
	return low <= number && number <= high
}

// each reports whether something is so of each element of a list.
func each[T any](list []T, is func(T) bool) bool {
	return !slices.ContainsFunc(list, func(element T) bool { return !is(element) })
}
