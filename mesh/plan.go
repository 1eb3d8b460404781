package mesh

import (
	"cmp"
	"slices"

	"almadraba/api"
)

// plan is a net that is to be mended.
type plan struct {
	api.MeshNet
}

// hours has, for each hole, the hour at which it is mended.
type hours [api.MaxMeshHoles]int

// next returns all holes that can come next in an order that begins with a list, ascending.
func (p plan) next(order []int) []int {
	var holes []int
	for hole := range p.Holes {
		waits := func(pair api.MeshPair) bool { return pair.B == hole && !slices.Contains(order, pair.A) }
		if !slices.Contains(order, hole) && !slices.ContainsFunc(p.Pairs, waits) {
			holes = append(holes, hole)
		}
	}
	return holes
}

// orders yields all orders; if they are compared number by number, the first one comes first.
func (p plan) orders(yield func([]int) bool) {
	p.longer(nil, yield)
}

// longer yields all orders that begin with a list, and reports whether still more are wanted.
func (p plan) longer(order []int, yield func([]int) bool) bool {
	if len(order) == len(p.Holes) {
		return yield(order)
	}
	for _, hole := range p.next(order) {
		if !p.longer(append(order[:len(order):len(order)], hole), yield) {
			return false
		}
	}
	return true
}

// can reports whether there is an order.
func (p plan) can() bool {
	for range p.orders {
		return true
	}
	return false
}

// isOrder reports whether a list of any numbers is an order.
func (p plan) isOrder(list []int) bool {
	if len(list) != len(p.Holes) {
		return false
	}
	for at, hole := range list {
		if !slices.Contains(p.next(list[:at]), hole) {
			return false
		}
	}
	return true
}

// times returns when each hole is mended by an order.
func (p plan) times(order []int) hours {
	var mended hours
	free := make([]int, p.Menders)
	for _, hole := range order {
		mender := soonest(free)
		begins := max(free[mender], p.Holes[hole].From)
		for _, pair := range p.Pairs {
			if pair.B == hole {
				begins = max(begins, mended[pair.A])
			}
		}
		mended[hole] = begins + p.Holes[hole].Hours
		free[mender] = mended[hole]
	}
	return mended
}

// soonest returns the first of the menders who are free first.
func soonest(free []int) int {
	var first least[int]
	for mender, hour := range free {
		first.see(mender, hour)
	}
	return first.what
}

// lost returns between what the loss by an order is.
func (p plan) lost(order []int) api.Span {
	var sum api.Span
	mended := p.times(order)
	for hole, h := range p.Holes {
		torn := mended[hole] - h.From
		sum.Low += h.Rate.Low * torn
		sum.High += h.Rate.High * torn
	}
	return sum
}

// loss returns the greatest loss by an order.
func (p plan) loss(order []int) int {
	return p.lost(order).High
}

// done returns the hour at which all holes are mended by an order.
func (p plan) done(order []int) int {
	mended := p.times(order)
	return slices.Max(mended[:]) // the hours of holes that the net does not have are 0
}

// best returns the first of the orders of which a number is the least.
func (p plan) best(number func(order []int) int) least[[]int] {
	var first least[[]int]
	for order := range p.orders {
		first.see(order, number(order))
	}
	return first
}

// begins returns what is known of whether a best order begins with a hole.
func (p plan) begins(hole int) int {
	var with, without least[[]int]
	for order := range p.orders {
		if order[0] == hole {
			with.see(order, p.loss(order))
		} else {
			without.see(order, p.loss(order))
		}
	}
	switch {
	case !with.some || without.some && without.number < with.number:
		return api.Never
	case !without.some || with.number < without.number:
		return api.Surely
	}
	return api.Perhaps
}

// rule returns the order that is made hole by hole.
func (p plan) rule() []int {
	var order []int
	for range p.Holes {
		order = append(order, slices.MaxFunc(p.next(order), p.compare)) // of several it is the first one
	}
	return order
}

// compare compares two holes by the High of the Rate, divided by the Hours.
func (p plan) compare(a, b int) int {
	one, other := p.Holes[a], p.Holes[b]
	return cmp.Compare(one.Rate.High*other.Hours, other.Rate.High*one.Hours)
}

// without returns the plan without a pair.
func (p plan) without(pair int) plan {
	p.Pairs = slices.Delete(slices.Clone(p.Pairs), pair, pair+1)
	return p
}
