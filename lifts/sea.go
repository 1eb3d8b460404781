package lifts

import "almadraba/api"

// sea is a sea that is at work.
type sea struct {
	api.LiftSea
}

// A load is greater with a greater weight, and with more parts. The weight does not heed the parts, and the place that
// has the most parts that it can have does not heed which others have the rest. So no search of the truths is needed.

// together returns between what the numbers of some spans can be together.
func together(spans []api.Span) api.Span {
	var sum api.Span
	for _, s := range spans {
		sum.Low += s.Low
		sum.High += s.High
	}
	return sum
}

// share returns between how many parts a place has in truths: what the others do not take.
func (s sea) share(place int) api.Span {
	all, own := together(s.Places), s.Places[place]
	return api.Span{
		Low:  max(own.Low, api.LiftParts-(all.High-own.High)),
		High: min(own.High, api.LiftParts-(all.Low-own.Low)),
	}
}

// load returns between what the load of a place is in truths.
func (s sea) load(place int) api.Span {
	share := s.share(place)
	return api.Span{Low: s.Weight.Low * share.Low, High: s.Weight.High * share.High}
}

// need returns the least Carry of a boat that is not over its load at a place in any truth.
func (s sea) need(place int) int {
	return (s.load(place).High + api.LiftParts - 1) / api.LiftParts // rounded up
}

// bears returns the greatest weight, up to MaxLiftWeight, with which a boat surely is not over its load at a place.
func (s sea) bears(place, boat int) int {
	parts := s.share(place).High
	if parts == 0 {
		return api.MaxLiftWeight
	}
	return min(api.LiftParts*s.Boats[boat].Carry/parts, api.MaxLiftWeight)
}

// lifts returns the greatest weight, up to MaxLiftWeight, that a crew surely holds.
func (s sea) lifts(crew []int) int {
	least := api.MaxLiftWeight
	for place, boat := range crew {
		least = min(least, s.bears(place, boat))
	}
	return least
}

// first returns the place at which a boat of a crew is over its load first, and whether there is one up to MaxLiftWeight.
func (s sea) first(crew []int) (int, bool) {
	first, least := 0, api.MaxLiftWeight
	for place, boat := range crew {
		if most := s.bears(place, boat); most < least {
			first, least = place, most
		}
	}
	return first, least < api.MaxLiftWeight
}

// holds reports whether a crew surely holds.
func (s sea) holds(crew []int) bool {
	return s.lifts(crew) >= s.Weight.High
}

// can reports whether in some truth no boat of a crew is over its load: if there is one, there is one with the least weight.
func (s sea) can(crew []int) bool {
	most := 0
	for place, boat := range crew {
		parts := s.Places[place].High
		if weight := s.Weight.Low; weight > 0 {
			parts = min(parts, api.LiftParts*s.Boats[boat].Carry/weight)
		}
		if parts < s.Places[place].Low {
			return false
		}
		most += parts
	}
	return most >= api.LiftParts
}

// able returns how many boats can carry the Need of a place.
func (s sea) able(place int) int {
	many := 0
	for _, boat := range s.Boats {
		if boat.Carry >= s.need(place) {
			many++
		}
	}
	return many
}

// short returns the first of the fewest places for which there are too few boats; none if there are enough for all.
// Fewer boats can carry a greater Need. So if there are too few for the least one of a list, there are for each of it,
// and any such places are a list for which there are too few.
func (s sea) short() []int {
	for few := 1; few <= len(s.Places); few++ {
		var places []int
		for place := range s.Places {
			if s.able(place) < few {
				places = append(places, place)
			}
		}
		if len(places) >= few {
			return places[:few]
		}
	}
	return nil
}
