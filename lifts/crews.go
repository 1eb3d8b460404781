package lifts

import (
	"slices"

	"almadraba/api"
)

// crews yields all crews, each in memory of its own; if they are compared number by number, the first one comes first.
func (s sea) crews(yield func([]int) bool) {
	s.longer(nil, yield)
}

// longer yields all crews that begin with a list, and reports whether still more are wanted.
func (s sea) longer(crew []int, yield func([]int) bool) bool {
	if len(crew) == len(s.Places) {
		return yield(crew)
	}
boats:
	for boat := range s.Boats {
		for _, other := range crew {
			if other == boat {
				continue boats
			}
		}
		if !s.longer(append(crew[:len(crew):len(crew)], boat), yield) {
			return false
		}
	}
	return true
}

// cost returns what a crew costs.
func (s sea) cost(crew []int) int {
	sum := 0
	for _, boat := range crew {
		sum += s.Boats[boat].Pence
	}
	return sum
}

// cheapest returns the first of the cheapest crews that surely hold, and its cost; no crew if none surely holds.
func (s sea) cheapest() ([]int, int) {
	var first []int
	least := 0
	for crew := range s.crews {
		if !s.holds(crew) {
			continue
		}
		if cost := s.cost(crew); first == nil || cost < least {
			first, least = crew, cost
		}
	}
	return first, least
}

// most returns the greatest weight, up to MaxLiftWeight, that some crew surely holds; 0 if there is no crew.
func (s sea) most() int {
	greatest := 0
	for crew := range s.crews {
		greatest = max(greatest, s.lifts(crew))
	}
	return greatest
}

// stronger returns the sea with one pound more that a boat can carry.
func (s sea) stronger(boat int) sea {
	s.Boats = slices.Clone(s.Boats)
	s.Boats[boat].Carry++
	return s
}

// helps returns all boats that better the most if they can carry one pound more.
func (s sea) helps() []int {
	var boats []int
	most := s.most()
	for boat := range s.Boats {
		if s.stronger(boat).most() > most {
			boats = append(boats, boat)
		}
	}
	return boats
}

// swap returns the first two places whose boats, if exchanged, better what a crew lifts, and whether there are any.
func (s sea) swap(crew []int) (api.LiftPair, bool) {
	lifts := s.lifts(crew)
	for a := range crew {
		for b := a + 1; b < len(crew); b++ {
			other := slices.Clone(crew)
			other[a], other[b] = crew[b], crew[a]
			if s.lifts(other) > lifts {
				return api.LiftPair{A: a, B: b}, true
			}
		}
	}
	return api.LiftPair{}, false
}
