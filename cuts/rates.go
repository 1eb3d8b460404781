package cuts

import (
	"slices"

	"almadraba/api"
)

// rates has what a pound of each part costs.
type rates [api.MaxCutParts]int

// cost returns what a part costs if it weighs so much.
func (r rates) cost(part, weight int) int {
	return r[part] * weight
}

// minus returns by how much rates are above others.
func (r rates) minus(other rates) rates {
	for part := range r {
		r[part] -= other[part]
	}
	return r
}

// truths returns what parts cost if their weights are as their words say.
func (t table) truths(cost costing) costing {
	return func(part, weight int) int {
		if t.away(part, weight) > 0 {
			return cannot
		}
		return cost(part, weight)
	}
}

// between returns between what all parts cost by rates in truths; ErrNone if there is no truth.
func (t table) between(r rates) (api.Span, api.Errno) {
	low := t.least(t.truths(r.cost))
	if low == cannot {
		return api.Span{}, api.ErrNone
	}
	high := -t.least(t.truths(rates{}.minus(r).cost))
	return api.Span{Low: low, High: high}, api.OK
}

// alone returns the rates by which a part costs its weight.
func alone(part int) rates {
	var r rates
	r[part] = 1
	return r
}

// lost returns the rates by which all parts together cost what is lost of one that is cut.
func (t table) lost(part int) rates {
	r := alone(part)
	for piece, p := range t {
		if p.Of == part {
			r[piece] = -1
		}
	}
	return r
}

// whole returns the rates by which all parts together cost the weight of all whole fish.
func (t table) whole() rates {
	var r rates
	for part, p := range t {
		if p.Of == api.CutNone {
			r[part] = 1
		}
	}
	return r
}

// sold returns the rates by which all parts together cost the price of a cut.
func (t table) sold(cut []int) rates {
	var r rates
	for part, p := range t {
		if t.there(part, cut) && !slices.Contains(cut, part) {
			r[part] = p.Pence
		}
	}
	return r
}
