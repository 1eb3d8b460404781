package lifts_test

import (
	"slices"
	"testing"

	"almadraba/api"
	"almadraba/lifts"
)

// must returns a function that returns what was returned without an error.
func must[T any](t *testing.T, s api.LiftSea) func(T, api.Errno) T {
	return func(result T, e api.Errno) T {
		t.Helper()
		if e != api.OK {
			t.Fatalf("%v: the error %d", s, e)
		}
		return result
	}
}

// may returns a function that returns what was returned, and whether it was, if not with ErrNone.
func may[T any](t *testing.T, s api.LiftSea) func(T, api.Errno) (T, bool) {
	return func(result T, e api.Errno) (T, bool) {
		t.Helper()
		if e != api.OK && e != api.ErrNone {
			t.Fatalf("%v: the error %d", s, e)
		}
		return result, e == api.OK
	}
}

func needOf(t *testing.T, s api.LiftSea, place int) int {
	t.Helper()
	return must[int](t, s)(lifts.Need(s, place))
}

func safeFor(t *testing.T, s api.LiftSea, crew []int) int {
	t.Helper()
	return must[int](t, s)(lifts.Safe(s, crew))
}

func liftsFor(t *testing.T, s api.LiftSea, crew []int) int {
	t.Helper()
	return must[int](t, s)(lifts.Lifts(s, crew))
}

// worse returns a number that is the greater the worse Cheap is.
func worse(t *testing.T, s api.LiftSea) int {
	t.Helper()
	if cheap, is := may[int](t, s)(lifts.Cheap(s)); is {
		return cheap
	}
	return 9999
}

// better returns Most, or one below 0 if there is none.
func better(t *testing.T, s api.LiftSea) int {
	t.Helper()
	if most, is := may[int](t, s)(lifts.Most(s)); is {
		return most
	}
	return -1
}

// P5.15.
func TestEachTruth(t *testing.T) {
	for _, s := range seas(11, 200) {
		all := partsOf(s)
		for p := range s.Places {
			share := must[api.Span](t, s)(lifts.Share(s, p))
			load := must[api.Span](t, s)(lifts.Load(s, p))
			need := needOf(t, s, p)
			var seen []int
			for _, parts := range all {
				seen = append(seen, parts[p])
				for weight := s.Weight.Low; weight <= s.Weight.High; weight++ {
					is := weight * parts[p]
					if parts[p] < share.Low || parts[p] > share.High || is < load.Low || is > load.High || is > api.LiftParts*need {
						t.Fatalf("%v: %d of the place %d with %d; Share = %v, Load = %v, Need = %d", s, parts[p], p, weight, share, load, need)
					}
				}
			}
			if !slices.Contains(seen, share.Low) || !slices.Contains(seen, share.High) {
				t.Fatalf("%v: Share of %d = %v", s, p, share)
			}
		}
	}
}

// P5.16.
func TestSafeOfNeeds(t *testing.T) {
	for _, s := range seas(12, 150) {
		for _, list := range crewsOf(s) {
			can := true
			for p, boat := range list {
				can = can && s.Boats[boat].Carry >= needOf(t, s, p)
			}
			is := safeFor(t, s, list)
			if (is == api.Surely) != can || can != (liftsFor(t, s, list) >= s.Weight.High) {
				t.Fatalf("%v: Safe of %v = %d, Lifts = %d", s, list, is, liftsFor(t, s, list))
			}
			for _, parts := range partsOf(s) {
				for _, weight := range []int{s.Weight.Low, s.Weight.High} {
					if over := isOver(s, list, weight, parts); over && is == api.Surely || !over && is == api.Never {
						t.Fatalf("%v: Safe of %v = %d, with %d pounds and %v it is not so", s, list, is, weight, parts)
					}
				}
			}
		}
	}
}

// P5.17.
func TestTheCrew(t *testing.T) {
	some, without := 0, 0
	for _, s := range seas(13, 500) {
		list, is := may[[]int](t, s)(lifts.Crew(s))
		cheap, same := may[int](t, s)(lifts.Cheap(s))
		_, short := may[[]int](t, s)(lifts.Short(s))
		if is != same || is != (better(t, s) >= s.Weight.High) || is == short {
			t.Fatalf("%v: Crew %t, Cheap %t, Most = %d, Short %t", s, is, same, better(t, s), short)
		}
		if !is {
			without++
			continue
		}
		some++
		if safeFor(t, s, list) != api.Surely || costOf(s, list) != cheap {
			t.Fatalf("%v: Crew = %v, Cheap = %d", s, list, cheap)
		}
		for _, other := range crewsOf(s) {
			if safeFor(t, s, other) == api.Surely && costOf(s, other) < cheap {
				t.Fatalf("%v: Cheap = %d; %v is cheaper", s, cheap, other)
			}
		}
	}
	if some < 100 || without < 100 {
		t.Errorf("too few seas of one kind: %d, %d", some, without)
	}
}

// P5.18.
func TestTheFirstOne(t *testing.T) {
	for _, s := range seas(14, 100) {
		all := partsOf(s)
		for _, list := range crewsOf(s) {
			greatest := liftsFor(t, s, list)
			if slices.ContainsFunc(all, func(parts []int) bool { return isOver(s, list, greatest, parts) }) {
				t.Fatalf("%v: Lifts of %v = %d", s, list, greatest)
			}
			first, is := may[int](t, s)(lifts.First(s, list))
			if is != (greatest < api.MaxLiftWeight) {
				t.Fatalf("%v: Lifts of %v = %d, First %t", s, list, greatest, is)
			}
			over := func(parts []int) bool {
				return (greatest+1)*parts[first] > api.LiftParts*s.Boats[list[first]].Carry
			}
			if is && !slices.ContainsFunc(all, over) {
				t.Fatalf("%v: Lifts of %v = %d, First = %d", s, list, greatest, first)
			}
		}
	}
}

// P5.19: with more boats.
func TestMoreBoats(t *testing.T) {
	d := dice(15)
	cheaper, more := 0, 0
	isWorse := func(s, other api.LiftSea) {
		cheap, otherCheap, most, otherMost := worse(t, s), worse(t, other), better(t, s), better(t, other)
		if otherCheap > cheap || otherMost < most {
			t.Fatalf("%v: Cheap = %d, Most = %d; %v: %d, %d", s, cheap, most, other, otherCheap, otherMost)
		}
		if otherCheap < cheap {
			cheaper++
		}
		if otherMost > most {
			more++
		}
	}
	for _, s := range seas(15, 600) {
		if len(s.Boats) < api.MaxLiftBoats {
			other := s
			other.Boats = slices.Insert(slices.Clone(s.Boats), d.below(len(s.Boats)+1), boat(d.below(500), d.below(6)))
			isWorse(s, other)
		}
		for i, b := range s.Boats {
			other := s
			other.Boats = slices.Clone(s.Boats)
			other.Boats[i].Carry += d.below(min(api.MaxLiftCarry-b.Carry, 5+b.Carry) + 1)
			isWorse(s, other)
		}
	}
	if cheaper < 50 || more < 200 {
		t.Errorf("too few seas of one kind: %d, %d", cheaper, more)
	}
}

// lesser returns a span with any numbers of a span, one at least.
func (d *dice) lesser(s api.Span) api.Span {
	low := s.Low + d.below(s.High-s.Low+1)
	return span(low, low+d.below(s.High-low+1))
}

// P5.19: with lesser spans.
func TestLesserSpans(t *testing.T) {
	d := dice(16)
	less, same := 0, 0
	for _, s := range seas(16, 600) {
		for i := range len(s.Places) + 1 {
			other := s
			if i < len(s.Places) {
				other.Places = slices.Clone(s.Places)
				other.Places[i] = d.lesser(s.Places[i])
			} else {
				other.Weight = d.lesser(s.Weight)
			}
			if lifts.Check(other) != api.OK { // the parts cannot be 12 together any longer
				continue
			}
			for p := range s.Places {
				need, is := needOf(t, s, p), needOf(t, other, p)
				if is > need {
					t.Fatalf("%v: Need of %d = %d; %v: %d", s, p, need, other, is)
				}
				if is < need {
					less++
				} else {
					same++
				}
			}
		}
	}
	if less < 200 || same < 200 {
		t.Errorf("too few places of one kind: %d, %d", less, same)
	}
}

// P5.20.
func TestExchange(t *testing.T) {
	exchanged := 0
	for _, s := range seas(17, 200) {
		for _, list := range crewsOf(s) {
			before := liftsFor(t, s, list)
			if before > better(t, s) {
				t.Fatalf("%v: Lifts of %v = %d, Most = %d", s, list, before, better(t, s))
			}
			pair, is := may[api.LiftPair](t, s)(lifts.Swap(s, list))
			if is && !(0 <= pair.A && pair.A < pair.B && pair.B < len(list)) {
				t.Fatalf("%v: Swap of %v = %v", s, list, pair)
			}
			for a := range list {
				for b := range a {
					other := slices.Clone(list)
					other[a], other[b] = list[b], list[a]
					behind := liftsFor(t, s, other)
					if !is && behind > before || is && pair.A == b && pair.B == a && behind <= before {
						t.Fatalf("%v: Swap of %v = %v, %t; behind %d and %d %d, not %d", s, list, pair, is, b, a, behind, before)
					}
				}
			}
			if is {
				exchanged++
			}
		}
	}
	if exchanged < 1000 {
		t.Errorf("too few crews: %d", exchanged)
	}
}

// inOrder returns a list in another order.
func inOrder[T any](list []T, order []int) []T {
	var other []T
	for _, i := range order {
		other = append(other, list[i])
	}
	return other
}

// P5.21.
func TestAnyOrder(t *testing.T) {
	d := dice(18)
	for _, s := range seas(18, 400) {
		others := []api.LiftSea{s, s, s}
		others[0].Places = inOrder(s.Places, d.shuffled(len(s.Places)))
		others[1].Boats = inOrder(s.Boats, d.shuffled(len(s.Boats)))
		others[2].Places, others[2].Boats = others[0].Places, others[1].Boats
		for _, other := range others {
			if worse(t, other) != worse(t, s) || better(t, other) != better(t, s) {
				t.Fatalf("%v: Cheap = %d, Most = %d; %v: %d, %d", s, worse(t, s), better(t, s), other, worse(t, other), better(t, other))
			}
		}
	}
}

// P5.22: fewer boats than places can carry the least Need of Short; of fewer places, whichever they are, this is not so.
func TestWhoIsShort(t *testing.T) {
	several := 0
	for _, s := range seas(19, 600) {
		list, is := may[[]int](t, s)(lifts.Short(s))
		few := func(places []int) bool {
			least := needOf(t, s, places[0])
			for _, p := range places {
				least = min(least, needOf(t, s, p))
			}
			can := 0
			for _, boat := range s.Boats {
				if boat.Carry >= least {
					can++
				}
			}
			return can < len(places)
		}
		if is && (!few(list) || !slices.IsSorted(list) || len(slices.Compact(slices.Clone(list))) != len(list)) {
			t.Fatalf("%v: Short = %v", s, list)
		}
		for _, other := range listsOf(s) {
			if few(other) && (!is || len(other) < len(list)) {
				t.Fatalf("%v: Short = %v, %t; and not %v", s, list, is, other)
			}
		}
		if len(list) > 1 {
			several++
		}
	}
	if several < 50 {
		t.Errorf("too few seas in which several places are short: %d", several)
	}
}

// P1: the largest seas, with all crews and truths that there can be.
func TestLargest(t *testing.T) {
	s := largest()
	for i := range s.Boats {
		s.Boats[i].Carry -= i
	}
	most(t, s, 996, 3)
	for _, list := range crewsOf(s) {
		lifted(t, s, list, 999-slices.Max(list), slices.Index(list, slices.Max(list)))
		safe(t, s, api.Perhaps, list...)
		noSwap(t, s, list...)
	}
	short(t, s, 0)
	noCrew(t, s)
}
