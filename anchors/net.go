package anchors

import (
	"slices"

	"almadraba/api"
)

// net is a net in a truth.
type net struct {
	api.AnchorNet
	truth api.AnchorTruth
}

// moved has, for each anchor, whether it has dragged.
type moved [api.MaxAnchors]bool

// An anchor that drags still does with more wind, more current and less grip, and then those that lie bear more,
// not less. So two truths tell of all others: what never drags in the roughest one drags in none, and what drags in
// the calmest one drags in each.

// roughest returns a net in the truth in which the most drags.
func roughest(n api.AnchorNet) net { return at(n, high, low) }

// calmest returns a net in the truth in which the least drags.
func calmest(n api.AnchorNet) net { return at(n, low, high) }

// at returns a net in the truth with one end of wind and current, and one of the grip of each bottom.
func at(n api.AnchorNet, force, grip func(api.Span) int) net {
	t := api.AnchorTruth{Wind: force(n.Wind), Current: force(n.Current)}
	for _, s := range n.Grips {
		t.Grips = append(t.Grips, grip(s))
	}
	return net{n, t}
}

func low(s api.Span) int { return s.Low }

func high(s api.Span) int { return s.High }

// load returns the load of a wall in a wind and a current.
func load(w api.AnchorWall, wind, current int) int {
	return w.Sail*wind + w.Drag*current
}

// bears returns how many half pounds an anchor that lies bears if some others have dragged.
func (w net) bears(anchor int, dragged moved) int {
	sum := 0
	add := func(wall, other int) {
		if !hasWall(w.AnchorNet, wall) {
			return
		}
		pounds := load(w.Walls[wall], w.truth.Wind, w.truth.Current)
		sum += pounds // half of the load, counted in half pounds
		if dragged[other] {
			sum += pounds
		}
	}
	add(anchor-1, anchor-1)
	add(anchor, anchor+1)
	return sum
}

// spare returns how many half pounds an anchor that lies could bear more if some others have dragged.
func (w net) spare(anchor int, dragged moved) int {
	a := w.Anchors[anchor]
	return 2*a.Weight*w.truth.Grips[a.Bottom] - w.bears(anchor, dragged)
}

// first returns all that drag when all lie.
func (w net) first() moved {
	var dragged moved
	for anchor := range w.Anchors {
		dragged[anchor] = w.spare(anchor, moved{}) < 0
	}
	return dragged
}

// drags returns all that have dragged at last if some have at first.
func (w net) drags(dragged moved) moved {
	for range w.Anchors { // so many rounds are enough, and their order is the same: those that lie never bear less
		for anchor := range w.Anchors {
			if !dragged[anchor] {
				dragged[anchor] = w.spare(anchor, dragged) < 0
			}
		}
	}
	return dragged
}

// pulled returns all that have dragged at last if an anchor has dragged before all others.
func (w net) pulled(anchor int) moved {
	var dragged moved
	dragged[anchor] = true
	return w.drags(dragged)
}

// holds reports whether no anchor drags.
func (w net) holds() bool {
	return w.first().count() == 0
}

// leastWind returns the least wind in which some anchor drags, or one above MaxAnchorForce if there is none.
func (w net) leastWind() int {
	for wind := range api.MaxAnchorForce + 1 {
		w.truth.Wind = wind
		if !w.holds() {
			return wind
		}
	}
	return api.MaxAnchorForce + 1
}

// help returns the anchor that should be heavier; ErrMany if none can be.
func help(n api.AnchorNet) (int, api.Errno) {
	best, greatest := 0, -1
	for anchor, a := range n.Anchors {
		if a.Weight == api.MaxAnchorWeight {
			continue
		}
		heavier := n
		heavier.Anchors = slices.Clone(n.Anchors)
		heavier.Anchors[anchor].Weight++
		if wind := roughest(heavier).leastWind(); wind > greatest {
			best, greatest = anchor, wind
		}
	}
	if greatest < 0 {
		return 0, api.ErrMany
	}
	return best, api.OK
}

// need returns by how much the Weight of an anchor must be greater so that it does not drag, and whether it can be.
func (w net) need(anchor int) (int, bool) {
	for more := range api.MaxAnchorWeight - w.Anchors[anchor].Weight + 1 {
		if w.spare(anchor, moved{})+2*more*w.truth.Grips[w.Anchors[anchor].Bottom] >= 0 {
			return more, true
		}
	}
	return 0, false
}

// count returns how many anchors have dragged.
func (m moved) count() int {
	return len(m.list())
}

// list returns all anchors that have dragged.
func (m moved) list() []int {
	var list []int
	for anchor, is := range m {
		if is {
			list = append(list, anchor)
		}
	}
	return list
}
