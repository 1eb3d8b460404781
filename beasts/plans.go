package beasts

import (
	"cmp"

	"almadraba/api"
)

// price is what a plan costs: fish, and steps, where of plans that cost as many fish one with fewer steps is better.
type price struct {
	fish, steps int
}

// plus returns two prices together.
func (p price) plus(q price) price {
	return price{fish: p.fish + q.fish, steps: p.steps + q.steps}
}

// less reports whether a price is less than another one.
func (p price) less(q price) bool {
	return cmp.Or(cmp.Compare(p.fish, q.fish), cmp.Compare(p.steps, q.steps)) < 0
}

// looking returns a hunt in which somebody may look into chambers.
func looking(b api.BeastTrap) hunt {
	return begin(b, 0)
}

// blind returns a hunt in which nobody looks into a chamber, and the steps count.
func blind(b api.BeastTrap) hunt {
	b.Seen = nil
	return begin(b, 1)
}

// begin returns a hunt of which it is known what the best plans cost.
func begin(b api.BeastTrap, counts int) hunt {
	// an answer that cannot be given leaves no place, and there nothing more is lost
	costs := map[belief]price{beliefOf(): {}, beliefOf(api.BeastSea): {}}
	h := hunt{b, counts, costs}
	for h.better() {
		// it ends: by a best plan no belief comes twice, as each step makes what is still to be lost less
	}
	return h
}

// better puts each step ahead of the plans that there are, and reports whether a belief has a better plan now.
func (h hunt) better() bool {
	found := false
	for number := range 1 << (h.Chambers + 1) {
		now := belief(number)
		for step := range h.steps {
			cost, can := h.cost(step, now)
			if old, had := h.costs[now]; can && (!had || cost.less(old)) {
				h.costs[now] = cost
				found = true
			}
		}
	}
	return found
}

// cost returns what the best plan costs that begins with a step, and whether there is one.
func (h hunt) cost(step api.BeastStep, now belief) (price, bool) {
	var worst price
	for _, next := range h.behind(step, now) {
		rest, can := h.costs[next]
		if !can {
			return price{}, false
		}
		if worst.less(rest) {
			worst = rest
		}
	}
	return worst.plus(price{h.fish(step), h.counts}), true
}

// least returns how many fish a best plan costs, if the beast is in one of some places; ErrNone if there is no plan.
func (h hunt) least(places ...int) (int, api.Errno) {
	cost, can := h.costs[beliefOf(places...)]
	if !can {
		return 0, api.ErrNone
	}
	return cost.fish, api.OK
}

// next returns the first step with which a best plan begins; ErrNone if there is no plan.
func (h hunt) next(now belief) (api.BeastStep, api.Errno) {
	for step := range h.steps {
		if cost, can := h.cost(step, now); can && cost == h.costs[now] {
			return step, api.OK
		}
	}
	return api.BeastStep{}, api.ErrNone
}

// path returns the steps that are done by best plans if the beast is in a chamber; ErrNone if there is no plan.
func (h hunt) path(chamber int) ([]api.BeastStep, api.Errno) {
	var steps []api.BeastStep
	at, now := chamber, beliefOf(h.Places...)
	for now != beliefOf(api.BeastSea) {
		step, e := h.next(now)
		if e != api.OK {
			return nil, e
		}
		steps = append(steps, step)
		now = h.behind(step, now)[answer(step, at)]
		at = h.after(step, at)
	}
	return steps, api.OK
}
