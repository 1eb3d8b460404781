package sales

import (
	"slices"

	"almadraba/api"
)

// sales yields all sales, in their order. The list is in the same memory more than once.
func (f fair) sales(yield func([]int) bool) {
	for many := range len(f.Bids) + 1 {
		if !f.longer(make([]int, 0, many), many, yield) {
			return
		}
	}
}

// longer yields all sales of so many bids that begin with one, and reports whether still more are wanted.
func (f fair) longer(sale []int, many int, yield func([]int) bool) bool {
	if len(sale) == many {
		return yield(sale)
	}
	for bid := range f.Bids {
		if f.fits(sale, bid) && !f.longer(append(sale, bid), many, yield) {
			return false
		}
	}
	return true
}

// all means each sale.
func all([]int) bool { return true }

// has returns what means the sales with a bid.
func has(bid int) func([]int) bool {
	return func(sale []int) bool { return slices.Contains(sale, bid) }
}

// best returns the first of the sales that bring the most of those that are meant, and what it brings: -1 if none is meant.
func (f fair) best(meant func([]int) bool) ([]int, int) {
	var first []int
	most := -1
	for sale := range f.sales {
		if is := f.pence(sale); is > most && meant(sale) {
			first, most = slices.Clone(sale), is
		}
	}
	return first, most
}

// split returns the most that sales bring that are meant, and the most that others bring.
func (f fair) split(meant func([]int) bool) (with, without int) {
	_, with = f.best(meant)
	_, without = f.best(func(sale []int) bool { return !meant(sale) })
	return with, without
}

// most returns what the best sales bring.
func (f fair) most() int {
	pence, known := f.brings[f.ready]
	if !known {
		_, pence = f.best(all)
		f.brings[f.ready] = pence
	}
	return pence
}

// pays returns what a buyer pays.
func (f fair) pays(buyer int) int {
	bids := func(bid int) bool { return f.Bids[bid].Buyer == buyer }
	winners, most := f.best(all)
	i := slices.IndexFunc(winners, bids)
	if i < 0 {
		return 0
	}
	others := most - f.Bids[winners[i]].Pence
	_, without := f.split(func(sale []int) bool { return slices.ContainsFunc(sale, bids) })
	return without - others
}

// need returns the least pence with which a bid would be in some best sale, or ErrNone.
func (f fair) need(bid int) (int, api.Errno) {
	with, without := f.split(has(bid))
	others := with - f.Bids[bid].Pence
	need := max(0, without-others)
	if with < 0 || need > api.MaxSalePence {
		return 0, api.ErrNone
	}
	return need, api.OK
}

// when returns the first day on which the best sales would bring the most.
func (f fair) when() int {
	first, most := 0, -1
	for day := range api.MaxSaltDays + 1 {
		if is := f.with(f.Pack, day).most(); is > most {
			first, most = day, is
		}
	}
	return first
}

// repack returns the first of the packings with which the best sales would bring the most.
func (f fair) repack() []int {
	var first []int
	most := -1
	for pack := range f.packings {
		if is := f.with(pack, f.Day).most(); is > most {
			first, most = pack, is
		}
	}
	return first
}
