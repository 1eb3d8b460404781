package lifts_test

import (
	"math"
	"reflect"
	"slices"
	"testing"

	"almadraba/api"
	"almadraba/lifts"
)

func span(low, high int) api.Span { return api.Span{Low: low, High: high} }

func boat(carry, pence int) api.LiftBoat { return api.LiftBoat{Carry: carry, Pence: pence} }

// boats is so many boats that carry so much, and cost nothing.
func boats(carries ...int) []api.LiftBoat {
	var list []api.LiftBoat
	for _, carry := range carries {
		list = append(list, boat(carry, 0))
	}
	return list
}

// seaS is S of the chapter's examples.
func seaS() api.LiftSea {
	return api.LiftSea{
		Weight: span(100, 120),
		Places: []api.Span{span(2, 6), span(3, 5), span(4, 6)},
		Boats:  []api.LiftBoat{boat(50, 4), boat(60, 7), boat(45, 2), boat(70, 9)},
	}
}

// seaR is R of the chapter's examples.
func seaR() api.LiftSea {
	return seaWith(func(s *api.LiftSea) { s.Boats = []api.LiftBoat{s.Boats[0], s.Boats[2]} })
}

// seaWith is S with something changed.
func seaWith(change func(s *api.LiftSea)) api.LiftSea {
	s := seaS()
	change(&s)
	return s
}

// even is a sea with a place for each of some numbers of parts, which are known.
func even(weight api.Span, boats []api.LiftBoat, parts ...int) api.LiftSea {
	s := api.LiftSea{Weight: weight, Boats: boats}
	for _, many := range parts {
		s.Places = append(s.Places, span(many, many))
	}
	return s
}

// largest is a sea with as much of everything as there can be.
func largest() api.LiftSea {
	return api.LiftSea{
		Weight: span(0, 2000), Places: slices.Repeat([]api.Span{span(0, 12)}, 4), Boats: slices.Repeat([]api.LiftBoat{boat(999, 99)}, 6),
	}
}

// args is one of each kind of argument beside a sea.
type args struct {
	weight int
	parts  []int
	place  int
	crew   []int
}

// argsS are arguments that fit S.
func argsS() args {
	return args{weight: 110, parts: []int{3, 4, 5}, place: 2, crew: []int{0, 3, 1}}
}

// answer is what a call returned.
type answer struct {
	name   string
	result any
	e      api.Errno
}

// callAll calls each function but Check.
func callAll(s api.LiftSea, a args) []answer {
	holds, e0 := lifts.Holds(s, a.weight, a.parts)
	share, e1 := lifts.Share(s, a.place)
	load, e2 := lifts.Load(s, a.place)
	need, e3 := lifts.Need(s, a.place)
	safe, e4 := lifts.Safe(s, a.crew)
	cheap, e5 := lifts.Cheap(s)
	crew, e6 := lifts.Crew(s)
	lift, e7 := lifts.Lifts(s, a.crew)
	most, e8 := lifts.Most(s)
	first, e9 := lifts.First(s, a.crew)
	short, e10 := lifts.Short(s)
	helps, e11 := lifts.Helps(s)
	swap, e12 := lifts.Swap(s, a.crew)
	return []answer{
		{"Holds", holds, e0}, {"Share", share, e1}, {"Load", load, e2}, {"Need", need, e3}, {"Safe", safe, e4},
		{"Cheap", cheap, e5}, {"Crew", crew, e6}, {"Lifts", lift, e7}, {"Most", most, e8}, {"First", first, e9},
		{"Short", short, e10}, {"Helps", helps, e11}, {"Swap", swap, e12},
	}
}

// isZero reports whether a result is a zero value, or an empty list.
func isZero(result any) bool {
	v := reflect.ValueOf(result)
	return v.IsZero() || v.Kind() == reflect.Slice && v.Len() == 0
}

// errors checks that each call by a name returns nothing but its error, and that all others return none.
func errors(t *testing.T, s api.LiftSea, a args, want map[string]api.Errno) {
	t.Helper()
	for _, got := range callAll(s, a) {
		if got.e != want[got.name] || got.e != api.OK && !isZero(got.result) {
			t.Errorf("%v: %s with %v = %v, %d, not the error %d", s, got.name, a, got.result, got.e, want[got.name])
		}
	}
}

// all has an error for each function but Check.
func all(e api.Errno) map[string]api.Errno {
	want := map[string]api.Errno{}
	for _, got := range callAll(seaS(), argsS()) {
		want[got.name] = e
	}
	return want
}

// same checks what was returned.
func same[T any](t *testing.T, s api.LiftSea, name string, got T, e api.Errno, want T) {
	t.Helper()
	if e != api.OK || !reflect.DeepEqual(got, want) && !(isZero(got) && isZero(want)) {
		t.Fatalf("%v: %s = %v, %d, not %v", s, name, got, e, want)
	}
}

// none checks that nothing was returned but ErrNone.
func none(t *testing.T, s api.LiftSea, name string, got any, e api.Errno) {
	t.Helper()
	if e != api.ErrNone || !isZero(got) {
		t.Fatalf("%v: %s = %v, %d, not ErrNone", s, name, got, e)
	}
}

// holds checks what Holds returns.
func holds(t *testing.T, s api.LiftSea, want bool, weight int, parts ...int) {
	t.Helper()
	got, e := lifts.Holds(s, weight, parts)
	same(t, s, "Holds", got, e, want)
}

// place checks what Share, Load and Need return.
func place(t *testing.T, s api.LiftSea, place int, share, load api.Span, need int) {
	t.Helper()
	got, e := lifts.Share(s, place)
	same(t, s, "Share", got, e, share)
	got, e = lifts.Load(s, place)
	same(t, s, "Load", got, e, load)
	carry, e := lifts.Need(s, place)
	same(t, s, "Need", carry, e, need)
}

// safe checks what Safe returns.
func safe(t *testing.T, s api.LiftSea, want int, crew ...int) {
	t.Helper()
	got, e := lifts.Safe(s, crew)
	same(t, s, "Safe", got, e, want)
}

// crew checks what Cheap and Crew return.
func crew(t *testing.T, s api.LiftSea, cost int, want ...int) {
	t.Helper()
	cheap, e := lifts.Cheap(s)
	same(t, s, "Cheap", cheap, e, cost)
	got, e := lifts.Crew(s)
	same(t, s, "Crew", got, e, want)
}

// noCrew checks that Cheap and Crew return ErrNone.
func noCrew(t *testing.T, s api.LiftSea) {
	t.Helper()
	cheap, e := lifts.Cheap(s)
	none(t, s, "Cheap", cheap, e)
	got, e := lifts.Crew(s)
	none(t, s, "Crew", got, e)
}

// lifted checks what Lifts returns, and First (-1: ErrNone).
func lifted(t *testing.T, s api.LiftSea, crew []int, want, first int) {
	t.Helper()
	got, e := lifts.Lifts(s, crew)
	same(t, s, "Lifts", got, e, want)
	got, e = lifts.First(s, crew)
	if first < 0 {
		none(t, s, "First", got, e)
	} else {
		same(t, s, "First", got, e, first)
	}
}

// most checks what Most and Helps return.
func most(t *testing.T, s api.LiftSea, want int, helps ...int) {
	t.Helper()
	got, e := lifts.Most(s)
	same(t, s, "Most", got, e, want)
	list, e := lifts.Helps(s)
	same(t, s, "Helps", list, e, helps)
}

// short checks what Short returns (nothing: ErrNone).
func short(t *testing.T, s api.LiftSea, want ...int) {
	t.Helper()
	got, e := lifts.Short(s)
	if len(want) == 0 {
		none(t, s, "Short", got, e)
	} else {
		same(t, s, "Short", got, e, want)
	}
}

// swap checks what Swap returns.
func swap(t *testing.T, s api.LiftSea, crew []int, a, b int) {
	t.Helper()
	got, e := lifts.Swap(s, crew)
	same(t, s, "Swap", got, e, api.LiftPair{A: a, B: b})
}

// noSwap checks that Swap returns ErrNone.
func noSwap(t *testing.T, s api.LiftSea, crew ...int) {
	t.Helper()
	got, e := lifts.Swap(s, crew)
	none(t, s, "Swap", got, e)
}

// The examples of the chapter, and the one of the document.
func TestExamples(t *testing.T) {
	s := seaS()
	place(t, s, 0, span(2, 5), span(200, 600), 50)
	place(t, s, 1, span(3, 5), span(300, 600), 50)
	place(t, s, 2, span(4, 6), span(400, 720), 60)
	safe(t, s, api.Surely, 0, 3, 1)
	safe(t, s, api.Perhaps, 0, 1, 2)
	safe(t, s, api.Perhaps, 2, 0, 1)
	crew(t, s, 20, 0, 1, 3)
	lifted(t, s, []int{0, 3, 1}, 120, 0)
	most(t, s, 120, 0)
	short(t, s)
	short(t, seaR(), 2)
	swap(t, s, []int{1, 3, 0}, 0, 2)
	noSwap(t, s, 0, 3, 1)
}

// beyond has numbers that are not from one to another one.
func beyond(low, high int) []int {
	return []int{low - 1, high + 1, -7, math.MinInt, math.MaxInt}
}

// wrongSpans has spans that have not only numbers from 0 to an end, or none, each for one reason.
func wrongSpans(end int) []api.Span {
	return []api.Span{
		span(-1, end), span(-1, -1), span(0, end+1), span(end+1, end+1), span(2, 1), span(1, 0), span(end, end-1), span(0, -1),
		span(math.MinInt, end), span(0, math.MaxInt), span(math.MaxInt, math.MinInt), span(math.MinInt, math.MaxInt), span(math.MaxInt, math.MaxInt),
	}
}

// wrongPlaces has lists of places that no sea can have, each for one reason.
func wrongPlaces() [][]api.Span {
	return [][]api.Span{
		nil, {span(0, 11)}, {span(0, 5), span(0, 6)}, {span(0, 0), span(0, 0)}, slices.Repeat([]api.Span{span(0, 2)}, 4),
		{span(1, 12), span(12, 12)}, {span(5, 6), span(4, 6), span(4, 6)}, slices.Repeat([]api.Span{span(4, 12)}, 4),
		slices.Repeat([]api.Span{span(0, 12)}, 5), slices.Repeat([]api.Span{span(0, 12)}, 100),
		{span(math.MaxInt, math.MaxInt), span(math.MaxInt, math.MaxInt), span(7, 7), span(7, 7)},
		{span(math.MinInt, 12), span(math.MinInt, 12)}, {span(-4, -4), span(8, 8), span(8, 8)}, {span(0, 24), span(0, 0)},
	}
}

// invalid has seas that are not valid, each for one reason.
func invalid() []api.LiftSea {
	seas := []api.LiftSea{{}, {Boats: boats(1)}, {Weight: span(1, 2)}}
	add := func(change func(s *api.LiftSea)) { seas = append(seas, seaWith(change)) }
	for _, w := range wrongSpans(api.MaxLiftWeight) {
		add(func(s *api.LiftSea) { s.Weight = w })
	}
	for _, p := range wrongSpans(api.LiftParts) {
		add(func(s *api.LiftSea) { s.Places = []api.Span{p, span(0, 12)} })
		add(func(s *api.LiftSea) { s.Places = []api.Span{span(0, 12), span(0, 12), p} })
	}
	for _, l := range wrongPlaces() {
		add(func(s *api.LiftSea) { s.Places = l })
	}
	for _, n := range beyond(0, api.MaxLiftCarry) {
		add(func(s *api.LiftSea) { s.Boats[0].Carry = n })
		add(func(s *api.LiftSea) { s.Boats[3].Carry = n })
	}
	for _, n := range beyond(0, api.MaxLiftPence) {
		add(func(s *api.LiftSea) { s.Boats[1].Pence = n })
		add(func(s *api.LiftSea) { s.Boats[3].Pence = n })
	}
	add(func(s *api.LiftSea) { s.Boats = slices.Repeat(s.Boats, 2)[:7] })
	add(func(s *api.LiftSea) { s.Boats = make([]api.LiftBoat, 1000) })
	return seas
}

// P5.1, and ErrLift before all others.
func TestInvalidSeas(t *testing.T) {
	for i, s := range invalid() {
		if e := lifts.Check(s); e != api.ErrLift {
			t.Errorf("%d: Check of %v: %d", i, s, e)
		}
		errors(t, s, args{}, all(api.ErrLift))
		errors(t, s, argsS(), all(api.ErrLift))
		errors(t, s, args{weight: -1, parts: []int{-1, 99}, place: -1, crew: []int{7, 7}}, all(api.ErrLift))
	}
}

// P5.1: what is just valid.
func TestValidSeas(t *testing.T) {
	seas := []api.LiftSea{
		seaS(), seaR(), largest(), even(span(0, 0), nil, 12), even(span(2000, 2000), boats(0), 12, 0), even(span(0, 2000), boats(999), 3, 3, 3, 3),
		{Weight: span(0, 1), Places: []api.Span{span(0, 12)}},
		{Weight: span(5, 5), Places: []api.Span{span(0, 6), span(0, 6)}},
		{Weight: span(5, 6), Places: []api.Span{span(0, 12), span(12, 12)}},
		{Weight: span(5, 6), Places: []api.Span{span(6, 12), span(6, 12)}},
	}
	for i, s := range seas {
		if e := lifts.Check(s); e != api.OK {
			t.Errorf("%d: Check of %v: %d", i, s, e)
		}
	}
}

// P5.2: a weight and parts at the ends, and beyond.
func TestTruths(t *testing.T) {
	s := seaS()
	for _, weight := range []int{100, 101, 119, 120} {
		for _, parts := range [][]int{{2, 4, 6}, {2, 5, 5}, {3, 3, 6}, {5, 3, 4}, {3, 4, 5}} {
			holds(t, s, true, weight, parts...)
		}
	}
	for _, weight := range beyond(100, 120) {
		holds(t, s, false, weight, 3, 4, 5)
	}
	for _, parts := range [][]int{
		nil, {12}, {6, 6}, {3, 4}, {3, 4, 5, 0}, {3, 4, 4}, {3, 4, 6}, {2, 3, 4}, {6, 5, 6}, {6, 3, 4}, {1, 5, 6}, {6, 2, 4}, {2, 6, 4}, {5, 4, 3}, {2, 3, 7},
		{-1, 7, 6}, {math.MaxInt, math.MaxInt, 14}, {math.MinInt, math.MinInt, 12}, make([]int, 1000),
	} {
		holds(t, s, false, 110, parts...)
	}
	still := even(span(0, 0), nil, 12)
	holds(t, still, true, 0, 12)
	holds(t, still, false, 0, 11)
	holds(t, still, false, 0)
	holds(t, still, false, 1, 12)
	holds(t, still, false, -1, 12)
}

// ErrArg for places and crews that the sea does not have.
func TestWrongPlacesAndCrews(t *testing.T) {
	ofPlace := map[string]api.Errno{"Share": api.ErrArg, "Load": api.ErrArg, "Need": api.ErrArg, "Short": api.ErrNone, "Swap": api.ErrNone}
	for _, n := range beyond(0, 2) {
		a := argsS()
		a.place = n
		errors(t, seaS(), a, ofPlace)
	}
	ofCrew := map[string]api.Errno{"Safe": api.ErrArg, "Lifts": api.ErrArg, "First": api.ErrArg, "Swap": api.ErrArg, "Short": api.ErrNone}
	for _, list := range [][]int{
		nil, {0}, {0, 1}, {0, 1, 2, 3}, {0, 1, 0}, {1, 1, 2}, {3, 2, 2}, {0, 0, 0}, {0, 1, 4}, {4, 1, 0}, {0, -1, 2},
		{math.MinInt, 0, 1}, {0, 1, math.MaxInt}, make([]int, 1000),
	} {
		a := argsS()
		a.crew = list
		errors(t, seaS(), a, ofCrew)
	}
}

// ErrNone, and ErrArg for all crews, if there are fewer boats than places.
func TestTooFewBoats(t *testing.T) {
	want := map[string]api.Errno{
		"Safe": api.ErrArg, "Lifts": api.ErrArg, "First": api.ErrArg, "Swap": api.ErrArg,
		"Cheap": api.ErrNone, "Crew": api.ErrNone, "Most": api.ErrNone, "Helps": api.ErrNone,
	}
	for _, list := range [][]int{nil, {0}, {0, 1}, {0, 1, 0}, {0, 1, 2}} {
		a := argsS()
		a.crew = list
		errors(t, seaR(), a, want)
		errors(t, seaWith(func(s *api.LiftSea) { s.Boats = nil }), a, want)
	}
	errors(t, even(span(0, 0), nil, 12), args{}, want)
	short(t, even(span(0, 0), nil, 12), 0)
	short(t, even(span(0, 0), boats(0, 0), 4, 4, 4), 0, 1, 2)
}

// P5.3 to P5.5: the others take, and leave, what they can; a Need is rounded up, and can be greater than MaxLiftCarry.
func TestPlaces(t *testing.T) {
	s := api.LiftSea{Weight: span(7, 50), Places: []api.Span{span(0, 12), span(1, 3), span(2, 4)}}
	place(t, s, 0, span(5, 9), span(35, 450), 38)
	place(t, s, 1, span(1, 3), span(7, 150), 13)
	place(t, s, 2, span(2, 4), span(14, 200), 17)
	s.Places[0] = span(6, 8)
	place(t, s, 0, span(6, 8), span(42, 400), 34)
	place(t, s, 1, span(1, 3), span(7, 150), 13)
	s.Places[0] = span(8, 8)
	place(t, s, 2, span(2, 3), span(14, 150), 13)
	s.Places[0] = span(5, 5)
	place(t, s, 1, span(3, 3), span(21, 150), 13)
	place(t, s, 2, span(4, 4), span(28, 200), 17)
	for place1 := range 4 {
		place(t, largest(), place1, span(0, 12), span(0, 24000), 2000)
	}
	one := api.LiftSea{Weight: span(1, 1), Places: []api.Span{span(0, 12), span(0, 12)}}
	place(t, one, 0, span(0, 12), span(0, 12), 1)
	still := even(span(0, 0), nil, 12, 0)
	place(t, still, 0, span(12, 12), span(0, 0), 0)
	place(t, still, 1, span(0, 0), span(0, 0), 0)
	place(t, even(span(1, 2000), nil, 11, 1), 0, span(11, 11), span(11, 22000), 1834)
}

// P5.6: a boat that can just carry its load is not over it; what is so in some truth of each boat need not be so in one truth of all.
func TestSafe(t *testing.T) {
	s := even(span(24, 25), boats(12, 12, 13, 11), 6, 6)
	safe(t, s, api.Perhaps, 0, 1)
	safe(t, s, api.Perhaps, 2, 1)
	safe(t, s, api.Never, 3, 2)
	s.Weight = span(25, 25)
	safe(t, s, api.Never, 0, 2)
	s.Weight = span(24, 24)
	safe(t, s, api.Surely, 0, 1)
	safe(t, s, api.Never, 0, 3)

	s = api.LiftSea{Weight: span(12, 12), Places: []api.Span{span(0, 12), span(0, 12)}, Boats: boats(6, 5, 12, 0)}
	safe(t, s, api.Never, 0, 1) // each of both can be not over its load, but not both
	safe(t, s, api.Perhaps, 0, 2)
	safe(t, s, api.Perhaps, 3, 2)
	s.Boats[1].Carry = 6
	safe(t, s, api.Perhaps, 0, 1)
	s.Places[0] = span(7, 12)
	safe(t, s, api.Never, 0, 2) // the place 0 always has 7 parts
	s.Weight = span(0, 12)
	safe(t, s, api.Perhaps, 0, 2) // with 0 pounds no boat is over its load
	s.Weight = span(0, 0)
	safe(t, s, api.Surely, 3, 1)
	s = even(span(2000, 2000), boats(0, 999), 0, 12)
	safe(t, s, api.Never, 0, 1)
	s = even(span(999, 999), boats(0, 999), 0, 12)
	safe(t, s, api.Surely, 0, 1)
	safe(t, s, api.Never, 1, 0)
}

// P5.7 and P5.8: of several crews that cost as little the first one; a boat that is free is better than a stronger one.
func TestCrews(t *testing.T) {
	s := even(span(0, 120), []api.LiftBoat{boat(60, 5), boat(60, 3), boat(59, 0), boat(99, 3), boat(61, 3)}, 6, 6)
	crew(t, s, 6, 1, 3)
	s.Boats[3].Pence = 4
	crew(t, s, 6, 1, 4)
	s.Boats[2].Carry = 60
	crew(t, s, 3, 1, 2)
	s.Places = []api.Span{span(7, 7), span(5, 5)}
	crew(t, s, 4, 3, 2)
	s.Boats[3].Carry = 69
	noCrew(t, s)
	noCrew(t, largest())
}

// P5.7 and P5.8: crews of any cost; ErrNone if no boat can carry a Need.
func TestCosts(t *testing.T) {
	s := largest()
	s.Weight = span(0, 999)
	crew(t, s, 396, 0, 1, 2, 3)
	s.Weight.High = 1000
	noCrew(t, s)
	free := even(span(0, 0), boats(0, 0, 0), 12)
	crew(t, free, 0, 0)
	s = seaWith(func(s *api.LiftSea) { s.Boats[0].Carry = 49 })
	noCrew(t, s)
}

// P5.9 to P5.11: up to MaxLiftWeight, and of several places the first one; the Weight of the sea says nothing.
func TestLifts(t *testing.T) {
	s := even(span(0, 0), boats(10, 20, 30, 0, 999), 2, 4, 6)
	lifted(t, s, []int{0, 1, 2}, 60, 0)
	lifted(t, s, []int{4, 1, 2}, 60, 1)
	lifted(t, s, []int{4, 1, 0}, 20, 2)
	lifted(t, s, []int{1, 0, 4}, 30, 1)
	lifted(t, s, []int{4, 2, 3}, 0, 2)
	lifted(t, s, []int{3, 0, 1}, 0, 0)
	s.Weight = span(2000, 2000)
	lifted(t, s, []int{0, 1, 2}, 60, 0)

	s = even(span(7, 9), boats(61, 31, 20), 6, 3, 3) // 122, 124, 80
	lifted(t, s, []int{0, 1, 2}, 80, 2)
	s.Boats[2].Carry = 30
	lifted(t, s, []int{0, 2, 1}, 120, 1)
	s = even(span(7, 9), boats(34, 17, 27), 7, 5) // 58 and 2 sevenths; 40 and 4 fifths; 64 and 4 fifths
	lifted(t, s, []int{0, 1}, 40, 1)
	lifted(t, s, []int{0, 2}, 58, 0)
	s = even(span(7, 9), boats(26, 31, 999), 5, 6, 1) // 62 and 2 fifths; 62: with 63 pounds both are over their loads
	lifted(t, s, []int{0, 1, 2}, 62, 0)
	s = even(span(0, 1), boats(0, 0), 0, 12)
	lifted(t, s, []int{0, 1}, 0, 1)
}

// P5.9 and P5.11: at MaxLiftWeight.
func TestGreatestWeight(t *testing.T) {
	s := even(span(0, 1), boats(999, 999, 999, 999), 5, 3, 4)
	lifted(t, s, []int{0, 1, 2}, 2000, -1)
	s.Places = []api.Span{span(5, 5), span(6, 6), span(1, 1)}
	lifted(t, s, []int{0, 1, 2}, 1998, 1)
	s = even(span(0, 1), boats(500, 501, 499, 999), 3, 9)
	lifted(t, s, []int{0, 3}, 1332, 1)
	s = even(span(0, 1), boats(500, 999, 500, 500), 3, 3, 3, 3)
	lifted(t, s, []int{0, 1, 2, 3}, 2000, -1)
	s.Boats[2].Carry, s.Boats[3].Carry = 499, 499
	lifted(t, s, []int{0, 1, 2, 3}, 1996, 2)
	s = even(span(0, 1), boats(667, 0, 333), 4, 8, 0)
	lifted(t, s, []int{2, 0, 1}, 999, 0)
	lifted(t, s, []int{0, 2, 1}, 499, 1)
}

// P5.10 and P5.13: a boat helps also above MaxLiftCarry, but not above MaxLiftWeight, and not if another one holds it up.
func TestMost(t *testing.T) {
	most(t, even(span(0, 1), boats(999), 12), 999, 0)
	most(t, even(span(0, 1), boats(5, 999, 999), 12), 999, 1, 2)
	most(t, largest(), 999)
	most(t, even(span(0, 1), boats(999, 999, 999, 999), 3, 3, 3, 3), 2000)
	most(t, even(span(0, 1), boats(999, 999), 6, 6), 1998)
	most(t, even(span(0, 1), boats(999, 998), 6, 6), 1996, 1)
	most(t, even(span(0, 1), boats(60, 50), 6, 6), 100, 1)
	most(t, even(span(0, 1), boats(50, 60, 49), 6, 6), 100, 0)
	most(t, even(span(0, 1), boats(50, 60, 50), 6, 6), 100, 0, 2)
	most(t, even(span(0, 1), boats(50, 60, 50, 50), 6, 6), 100, 0, 2, 3)
	most(t, even(span(0, 1), boats(0, 0), 6, 6), 0)
	most(t, even(span(0, 1), boats(0, 7), 12, 0), 7, 1)
	most(t, even(span(0, 1), boats(10, 20), 8, 4), 30) // one pound more is not a whole pound of the catch for either
	most(t, even(span(0, 1), boats(10, 40), 4, 8), 30, 0)
}

// P5.12: the fewest places, and of several lists the first one.
func TestShort(t *testing.T) {
	s := even(span(0, 120), boats(60, 20, 20), 2, 4, 6) // Needs are 20, 40, 60
	short(t, s, 1, 2)                                   // the boat 0 alone can carry 40
	s.Boats = boats(60, 40, 19)
	short(t, s, 0, 1, 2)
	s.Boats = boats(60, 40, 20)
	short(t, s)
	s.Boats = boats(59, 59, 59)
	short(t, s, 2)
	s.Boats = boats(39, 39, 39)
	short(t, s, 1)
	s.Boats = boats(19, 19, 19, 19)
	short(t, s, 0)
	s = even(span(0, 120), boats(30, 29, 29, 29, 29), 3, 3, 3, 3)
	short(t, s, 0, 1)
	s.Boats = boats(30, 30, 29, 30, 29)
	short(t, s, 0, 1, 2, 3)
	s.Boats = boats(30, 30, 29, 29, 29)
	short(t, s, 0, 1, 2)
	s = even(span(0, 120), boats(60, 10, 50), 1, 5, 1, 5) // the places 1 and 3 need 50, the others 10
	short(t, s, 0, 1, 2, 3)
	s.Boats = boats(60, 10, 49, 10)
	short(t, s, 1, 3)
	s.Boats = boats(10, 9, 50, 50)
	short(t, s, 0, 1, 2, 3)
	short(t, even(span(0, 0), boats(0, 0), 6, 6))
	short(t, even(span(0, 2000), boats(999, 999, 999, 999, 999, 999), 0, 6, 6), 1)
}

// P5.14: the first pair, also if another one is better; not one that is as good.
func TestSwap(t *testing.T) {
	s := even(span(0, 1), boats(10, 20, 30), 2, 4, 6)
	swap(t, s, []int{1, 0, 2}, 0, 1)
	swap(t, s, []int{0, 2, 1}, 1, 2)
	swap(t, s, []int{2, 1, 0}, 0, 2)
	noSwap(t, s, 0, 1, 2)
	s = even(span(0, 1), boats(20, 40, 10), 2, 2, 8)
	swap(t, s, []int{0, 1, 2}, 0, 2) // 30 instead of 15; behind 1 and 2 it would be 60
	s = even(span(0, 1), boats(10, 20, 30), 4, 4, 4)
	for _, list := range [][]int{{0, 1, 2}, {2, 1, 0}, {1, 2, 0}} {
		noSwap(t, s, list...)
	}
	noSwap(t, even(span(0, 1), boats(5), 12), 0)
	noSwap(t, even(span(0, 1), boats(999, 998, 997, 996), 3, 3, 3, 3), 3, 1, 2, 0)
	swap(t, even(span(0, 1), boats(999, 9), 0, 12), []int{0, 1}, 0, 1)
}

// R3 and R4: empty lists are nil lists, results are new memory, and no argument is changed.
func TestMemory(t *testing.T) {
	bare := even(span(1, 2), nil, 12)
	empty := bare
	empty.Boats = []api.LiftBoat{}
	want := callAll(bare, args{})
	for i, got := range callAll(empty, args{parts: []int{}, crew: []int{}}) {
		if got.e != want[i].e || isZero(got.result) != isZero(want[i].result) {
			t.Errorf("%s of empty lists = %v, of nil lists %v", got.name, got, want[i])
		}
	}
	if e := lifts.Check(api.LiftSea{Weight: span(1, 2), Places: []api.Span{}}); e != api.ErrLift {
		t.Errorf("Check of an empty list of places: %d", e)
	}
	for _, make := range []func() api.LiftSea{seaS, seaR} {
		s, a := make(), argsS()
		for range 2 {
			for _, got := range callAll(s, a) {
				if l, is := got.result.([]int); is {
					l = l[:cap(l)]
					for i := range l {
						l[i] = -9
					}
				}
			}
			if !reflect.DeepEqual(s, make()) || !reflect.DeepEqual(a, argsS()) {
				t.Fatalf("the arguments are changed: %v, %v", s, a)
			}
		}
	}
}
