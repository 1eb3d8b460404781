package lifts_test

import (
	"slices"
	"testing"

	"almadraba/api"
	"almadraba/lifts"
)

// dice is a row of numbers that are the same in each run.
type dice uint64

// below returns a number from 0 to below an end.
func (d *dice) below(end int) int {
	*d = *d*6364136223846793005 + 1442695040888963407
	return int(uint64(*d)>>33) % end
}

// shuffled returns the numbers from 0 to below an end in any order.
func (d *dice) shuffled(end int) []int {
	var list []int
	for i := range end {
		list = slices.Insert(list, d.below(i+1), i)
	}
	return list
}

// places returns so many places around numbers that are 12 together, with spans that are at most so wide at each end.
func (d *dice) places(many, wide int) []api.Span {
	parts := make([]int, many)
	for range api.LiftParts {
		parts[d.below(many)]++
	}
	var list []api.Span
	for _, p := range parts {
		list = append(list, span(max(0, p-d.below(wide+1)), min(api.LiftParts, p+d.below(wide+1))))
	}
	return list
}

// sea returns a sea of such places with a weight up to an end, and boats that can carry about what they must.
func (d *dice) sea(places, wide, boats, end int) api.LiftSea {
	low := d.below(end + 1)
	s := api.LiftSea{Weight: span(low, min(end, low+d.below(5))), Places: d.places(places, wide)}
	for range boats {
		s.Boats = append(s.Boats, boat(d.below(min(api.MaxLiftCarry, 3+low)+1), d.below(6)))
	}
	return s
}

// seas returns so many seas, the same ones each time: in turns of light and of heavy catches.
func seas(seed, many int) []api.LiftSea {
	d := dice(seed)
	list := []api.LiftSea{seaS(), seaR(), even(span(0, 0), nil, 12)}
	for range many / 2 {
		for _, end := range []int{30, api.MaxLiftWeight} {
			places := 1 + d.below(api.MaxLiftPlaces)
			list = append(list, d.sea(places, d.below(4), min(places-1+d.below(4), api.MaxLiftBoats), end))
		}
	}
	return list
}

// partsOf returns all lists of parts in truths of a sea.
func partsOf(s api.LiftSea) [][]int {
	lists := [][]int{nil}
	for _, place := range s.Places {
		var longer [][]int
		for _, l := range lists {
			for many := place.Low; many <= place.High; many++ {
				longer = append(longer, append(slices.Clone(l), many))
			}
		}
		lists = longer
	}
	return slices.DeleteFunc(lists, func(l []int) bool {
		sum := 0
		for _, many := range l {
			sum += many
		}
		return sum != api.LiftParts
	})
}

// crewsOf returns all crews of a sea, compared number by number.
func crewsOf(s api.LiftSea) [][]int {
	lists := [][]int{nil}
	for range s.Places {
		var longer [][]int
		for _, l := range lists {
			for boat := range s.Boats {
				if !slices.Contains(l, boat) {
					longer = append(longer, append(slices.Clone(l), boat))
				}
			}
		}
		lists = longer
	}
	return lists
}

// costOf returns what a crew costs.
func costOf(s api.LiftSea, crew []int) int {
	sum := 0
	for _, boat := range crew {
		sum += s.Boats[boat].Pence
	}
	return sum
}

// isOver reports whether some boat of a crew is over its load in a truth.
func isOver(s api.LiftSea, crew []int, weight int, parts []int) bool {
	for place, boat := range crew {
		if weight*parts[place] > api.LiftParts*s.Boats[boat].Carry {
			return true
		}
	}
	return false
}

// safeOf returns what is known of a crew, by all truths.
func safeOf(s api.LiftSea, crew []int) int {
	over, not := false, false
	for _, parts := range partsOf(s) {
		for weight := s.Weight.Low; weight <= s.Weight.High; weight++ {
			if isOver(s, crew, weight, parts) {
				over = true
			} else {
				not = true
			}
		}
	}
	switch {
	case !over:
		return api.Surely
	case !not:
		return api.Never
	}
	return api.Perhaps
}

// overOf has, for each place and each boat, the least weight at which it can be over its load there, one pound after
// the other; one above MaxLiftWeight if there is none.
func overOf(s api.LiftSea) [][]int {
	all := partsOf(s)
	var rows [][]int
	for place := range s.Places {
		var row []int
		for _, boat := range s.Boats {
			weight := 0
			is := func(parts []int) bool { return weight*parts[place] > api.LiftParts*boat.Carry }
			for weight <= api.MaxLiftWeight && !slices.ContainsFunc(all, is) {
				weight++
			}
			row = append(row, weight)
		}
		rows = append(rows, row)
	}
	return rows
}

// liftsOf returns the greatest weight that a crew surely holds, and the place at which a boat is over its load first (-1: none).
func liftsOf(over [][]int, crew []int) (int, int) {
	first, least := -1, api.MaxLiftWeight+1
	for place, boat := range crew {
		if weight := over[place][boat]; weight < least {
			first, least = place, weight
		}
	}
	return least - 1, first
}

// mostOf returns the greatest weight that some crew surely holds; one below 0 if there is no crew.
func mostOf(s api.LiftSea) int {
	over, greatest := overOf(s), -1
	for _, crew := range crewsOf(s) {
		lift, _ := liftsOf(over, crew)
		greatest = max(greatest, lift)
	}
	return greatest
}

// P5.2: of all lists of small numbers.
func TestAllTruths(t *testing.T) {
	many := 0
	for _, s := range seas(1, 100) {
		all := partsOf(s)
		wider := s
		wider.Places = nil
		for _, p := range s.Places {
			wider.Places = append(wider.Places, span(p.Low-1, p.High+1))
		}
		for _, parts := range append(partsOf(wider), make([]int, len(s.Places)), all[0][1:]) {
			is := slices.ContainsFunc(all, func(l []int) bool { return slices.Equal(l, parts) })
			for _, weight := range []int{s.Weight.Low - 1, s.Weight.Low, s.Weight.High, s.Weight.High + 1} {
				holds(t, s, is && s.Weight.Low <= weight && weight <= s.Weight.High, weight, parts...)
			}
			if is {
				many++
			}
		}
	}
	if many < 300 {
		t.Errorf("too few truths: %d", many)
	}
}

// P5.3 to P5.5: by all truths.
func TestPlacesOfTruths(t *testing.T) {
	narrower, above := 0, 0
	for _, s := range seas(2, 600) {
		for p, given := range s.Places {
			share, load := span(99, -1), span(99999, -1)
			for _, parts := range partsOf(s) {
				share = span(min(share.Low, parts[p]), max(share.High, parts[p]))
				for weight := s.Weight.Low; weight <= s.Weight.High; weight++ {
					load = span(min(load.Low, weight*parts[p]), max(load.High, weight*parts[p]))
				}
			}
			need := 0
			for api.LiftParts*need < load.High {
				need++
			}
			place(t, s, p, share, load, need)
			if share != given {
				narrower++
			}
			if need > api.MaxLiftCarry {
				above++
			}
		}
	}
	if narrower < 50 || above < 50 {
		t.Errorf("too few places of one kind: %d, %d", narrower, above)
	}
}

// P5.6 to P5.8: by all crews in all truths.
func TestCrewsOfTruths(t *testing.T) {
	var found [4]int
	several, later, without := 0, 0, 0
	for _, s := range seas(3, 300) {
		var best []int
		least, first := 9999, true
		for _, list := range crewsOf(s) {
			want := safeOf(s, list)
			safe(t, s, want, list...)
			found[want]++
			if want != api.Surely {
				continue
			}
			switch cost := costOf(s, list); {
			case cost < least:
				if !first {
					later++
				}
				best, least = list, cost
			case cost == least:
				several++
			}
			first = false
		}
		if best == nil {
			noCrew(t, s)
			without++
		} else {
			crew(t, s, least, best...)
		}
	}
	if slices.Min(found[1:]) < 500 || several < 50 || later < 20 || without < 20 {
		t.Errorf("too few crews of one kind: %v, %d, %d, %d", found, several, later, without)
	}
}

// P5.9 to P5.11 and P5.14: pound by pound.
func TestLiftsOfTruths(t *testing.T) {
	var places [4]int
	ends, none, same, swaps, stays := 0, 0, 0, 0, 0
	for _, s := range seas(4, 400) {
		over := overOf(s)
		for _, list := range crewsOf(s) {
			want, first := liftsOf(over, list)
			lifted(t, s, list, want, first)
			if first < 0 {
				ends++
			} else {
				places[first]++
			}
			for p, boat := range list {
				if p > first && first >= 0 && over[p][boat] == want+1 {
					same++
				}
			}
			a, b := swapOf(over, list)
			if b == 0 {
				noSwap(t, s, list...)
				stays++
			} else {
				swap(t, s, list, a, b)
				swaps++
			}
		}
		if len(s.Boats) < len(s.Places) {
			got, e := lifts.Most(s)
			if none++; got != 0 || e != api.ErrNone {
				t.Fatalf("%v: Most = %d, %d", s, got, e)
			}
		}
	}
	if slices.Min(places[:]) < 100 || ends < 20 || none < 20 || same < 100 || swaps < 1000 || stays < 1000 {
		t.Errorf("too few crews of one kind: %v, %d, %d, %d, %d, %d", places, ends, none, same, swaps, stays)
	}
}

// swapOf returns the first two places whose boats, if exchanged, better what a crew lifts; 0, 0 if there are none.
func swapOf(over [][]int, crew []int) (int, int) {
	before, _ := liftsOf(over, crew)
	for a := range crew {
		for b := a + 1; b < len(crew); b++ {
			other := slices.Clone(crew)
			other[a], other[b] = other[b], other[a]
			if behind, _ := liftsOf(over, other); behind > before {
				return a, b
			}
		}
	}
	return 0, 0
}

// P5.10 and P5.13: by all crews, with each boat as it is, and one pound stronger.
func TestMostOfCrews(t *testing.T) {
	help, some, ends := 0, 0, 0
	for _, s := range seas(5, 300) {
		if len(s.Boats) < len(s.Places) {
			continue
		}
		greatest := mostOf(s)
		var helps []int
		for boat := range s.Boats {
			other := s
			other.Boats = slices.Clone(s.Boats)
			other.Boats[boat].Carry++
			if mostOf(other) > greatest {
				helps = append(helps, boat)
			}
		}
		most(t, s, greatest, helps...)
		if len(helps) > 0 {
			help++
		}
		if len(helps) > 1 {
			some++
		}
		if greatest == api.MaxLiftWeight {
			ends++
		}
	}
	if help < 30 || some < 3 || ends < 3 {
		t.Errorf("too few seas of one kind: %d, %d, %d", help, some, ends)
	}
}

// listsOf returns all lists of places of a sea, the ones with fewer places first, and then compared number by number.
func listsOf(s api.LiftSea) [][]int {
	var all [][]int
	lists := [][]int{nil}
	for range s.Places {
		var longer [][]int
		for _, l := range lists {
			for p := range s.Places {
				if len(l) == 0 || p > l[len(l)-1] {
					longer = append(longer, append(slices.Clone(l), p))
				}
			}
		}
		all = append(all, longer...)
		lists = longer
	}
	return all
}

// isShort reports whether fewer boats than a list has places can carry the Need of one of them.
func isShort(t *testing.T, s api.LiftSea, list []int) bool {
	t.Helper()
	can := 0
	for _, boat := range s.Boats {
		if slices.ContainsFunc(list, func(p int) bool { return boat.Carry >= needOf(t, s, p) }) {
			can++
		}
	}
	return can < len(list)
}

// P5.12: of all lists of places.
func TestShortOfLists(t *testing.T) {
	var found [5]int
	later := 0
	for _, s := range seas(6, 1000) {
		all := listsOf(s)
		at := slices.IndexFunc(all, func(list []int) bool { return isShort(t, s, list) })
		if at < 0 {
			short(t, s)
			found[0]++
			continue
		}
		short(t, s, all[at]...)
		found[len(all[at])]++
		if all[at][0] > 0 {
			later++
		}
	}
	if slices.Min(found[:]) < 10 || later < 50 {
		t.Errorf("too few seas of one kind: %v, %d", found, later)
	}
}
