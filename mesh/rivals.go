package mesh

// rivals is a plan with the hours of all its orders.
type rivals struct {
	plan
	all []hours
}

// rivalsOf returns a plan with the hours of all its orders.
func rivalsOf(p plan) rivals {
	r := rivals{plan: p}
	for order := range p.orders {
		r.all = append(r.all, p.times(order))
	}
	return r
}

// regret returns by how much the loss by an order can be above that by another one.
func (r rivals) regret(order []int) int {
	mended, most := r.times(order), 0
	for _, other := range r.all {
		most = max(most, r.above(mended, other))
	}
	return most
}

// above returns by how much the loss by an order can be above that by another one; it is below 0 if it is always less.
func (p plan) above(mended, other hours) int {
	sum := 0
	for hole, h := range p.Holes { // the worst truth has the most fish where the order is later, and the fewest where it is sooner
		later := mended[hole] - other[hole]
		sum += max(h.Rate.Low*later, h.Rate.High*later)
	}
	return sum
}
