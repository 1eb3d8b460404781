package beasts_test

import (
	"math"
	"reflect"
	"slices"
	"testing"

	"almadraba/api"
	"almadraba/beasts"
)

// must returns a function that returns what was returned without an error.
func must[T any](t *testing.T, b api.BeastTrap) func(T, api.Errno) T {
	return func(result T, e api.Errno) T {
		t.Helper()
		if e != api.OK {
			t.Fatalf("%v: the error %d", b, e)
		}
		return result
	}
}

// endless is a number that is greater than all costs.
const endless = 99999

// orEndless returns what was returned without an error, or endless with ErrNone.
func orEndless(t *testing.T, b api.BeastTrap) func(int, api.Errno) int {
	return func(result int, e api.Errno) int {
		t.Helper()
		if e == api.ErrNone {
			return endless
		}
		return must[int](t, b)(result, e)
	}
}

func leastIn(t *testing.T, b api.BeastTrap) int {
	t.Helper()
	return orEndless(t, b)(beasts.Least(b))
}

func blindIn(t *testing.T, b api.BeastTrap) int {
	t.Helper()
	return orEndless(t, b)(beasts.Blind(b))
}

func wayIn(t *testing.T, b api.BeastTrap, chamber int) int {
	t.Helper()
	return orEndless(t, b)(beasts.Way(b, chamber))
}

func trappedIn(t *testing.T, b api.BeastTrap) []int {
	t.Helper()
	return must[[]int](t, b)(beasts.Trapped(b))
}

// ran returns where the beast is behind steps, and what is lost, twelve steps at a time; in the sea it is all the same
// from which chamber on the rest is run.
func ran(t *testing.T, b api.BeastTrap, list []api.BeastStep, chamber int) (int, int) {
	t.Helper()
	at, sum := chamber, 0
	for part := range slices.Chunk(list, api.MaxBeastSteps) {
		to, lost, _, e := beasts.Run(b, part, max(at, 0))
		if e != api.OK {
			t.Fatalf("%v: Run of %v from %d: %d", b, part, at, e)
		}
		sum += lost
		if at != sea {
			at = to
		}
	}
	return at, sum
}

// P6.14.
func TestEachPlace(t *testing.T) {
	less := 0
	for _, b := range traps(11, 800, 20) {
		worst := leastIn(t, b)
		if worst == endless {
			continue
		}
		first := must[api.BeastStep](t, b)(beasts.Next(b))
		most := 0
		for _, chamber := range b.Places {
			list := must[[]api.BeastStep](t, b)(beasts.Path(b, chamber))
			paid := must[int](t, b)(beasts.Paid(b, chamber))
			if at, lost := ran(t, b, list, chamber); at != sea || lost != paid || paid > worst || list[0] != first {
				t.Fatalf("%v: Path of %d = %v, behind it %d, %d; Paid = %d, Least = %d, Next = %v", b, chamber, list, at, lost, paid, worst, first)
			}
			most = max(most, paid)
			if paid < worst {
				less++
			}
		}
		if most != worst {
			t.Fatalf("%v: Least = %d, but at most %d is lost", b, worst, most)
		}
	}
	if less < 200 {
		t.Errorf("too few places from which less is lost: %d", less)
	}
}

// P6.14: by Path it is known that the beast is in the sea only behind the last step.
func TestKnown(t *testing.T) {
	known := 0
	for _, b := range traps(12, 400, 6) {
		if leastIn(t, b) == endless {
			continue
		}
		for _, chamber := range b.Places {
			list := must[[]api.BeastStep](t, b)(beasts.Path(b, chamber))
			for many := range min(len(list), api.MaxBeastSteps) + 1 {
				_, _, answers, e := beasts.Run(b, list[:many], chamber)
				now, f := beasts.After(b, list[:many], answers)
				if e != api.OK || f != api.OK || slices.Equal(now, []int{sea}) != (many == len(list)) {
					t.Fatalf("%v: Path of %d = %v; behind %d steps %v, %d, %d", b, chamber, list, many, now, e, f)
				}
			}
			known++
		}
	}
	if known < 300 {
		t.Errorf("too few paths: %d", known)
	}
}

// P6.15.
func TestWhatIsKnown(t *testing.T) {
	fewer, same, looked := 0, 0, 0
	for _, b := range traps(13, 800, 12) {
		worst, blind := leastIn(t, b), blindIn(t, b)
		if worst > blind {
			t.Fatalf("%v: Least = %d, Blind = %d", b, worst, blind)
		}
		if worst < blind {
			looked++
		}
		for i, chamber := range b.Places {
			way := wayIn(t, b, chamber)
			if worst < way || len(b.Places) == 1 && (worst != way || blind != way) {
				t.Fatalf("%v: Least = %d, Blind = %d, Way of %d = %d", b, worst, blind, chamber, way)
			}
			if len(b.Places) == 1 {
				same++
				continue
			}
			other := b
			other.Places = slices.Delete(slices.Clone(b.Places), i, i+1)
			if leastIn(t, other) > worst || blindIn(t, other) > blind {
				t.Fatalf("%v: Least = %d, Blind = %d; of %v %d, %d", b, worst, blind, other.Places, leastIn(t, other), blindIn(t, other))
			}
			if leastIn(t, other) < worst {
				fewer++
			}
		}
	}
	if fewer < 200 || same < 50 || looked < 50 {
		t.Errorf("too few traps of one kind: %d, %d, %d", fewer, same, looked)
	}
}

// P6.16.
func TestBlind(t *testing.T) {
	several := 0
	for _, b := range traps(14, 600, 12) {
		blind := blindIn(t, b)
		if blind == endless {
			continue
		}
		list := must[[]api.BeastStep](t, b)(beasts.Script(b))
		for _, chamber := range b.Places {
			if at, lost := ran(t, b, list, chamber); at != sea || lost != blind {
				t.Fatalf("%v: Script = %v; behind it %d, %d, not %d", b, list, at, lost, blind)
			}
		}
		for _, step := range list {
			if step.Kind != api.BeastOpen {
				t.Fatalf("%v: Script = %v", b, list)
			}
		}
		if len(b.Places) > 1 {
			several++
		}
	}
	if several < 100 {
		t.Errorf("too few traps: %d", several)
	}
}

// outside returns a trap whose Places are all chambers that are not trapped, or as it is if there is none.
func outside(t *testing.T, b api.BeastTrap) api.BeastTrap {
	t.Helper()
	var places []int
	for chamber := range b.Chambers {
		if !slices.Contains(trappedIn(t, b), chamber) {
			places = append(places, chamber)
		}
	}
	if len(places) > 0 {
		b.Places = places
	}
	return b
}

// P6.17.
func TestTrapped(t *testing.T) {
	some, both := 0, 0
	for _, given := range traps(15, 1000, 5) {
		for _, b := range []api.BeastTrap{given, outside(t, given)} {
			caught := trappedIn(t, b)
			is := func(place int) bool { return slices.Contains(caught, place) }
			none := !slices.ContainsFunc(b.Places, is)
			if none != (leastIn(t, b) < endless) || none != (blindIn(t, b) < endless) {
				t.Fatalf("%v: Trapped = %v, Least = %d, Blind = %d", b, caught, leastIn(t, b), blindIn(t, b))
			}
			for chamber := range b.Chambers {
				for i := range b.Doors {
					to := must[[]int](t, b)(beasts.Move(b, []int{chamber}, i))
					if is(chamber) != is(to[0]) {
						t.Fatalf("%v: Trapped = %v; the door %d leads from %d to %d", b, caught, i, chamber, to[0])
					}
				}
			}
			if len(caught) > 0 && none {
				both++
			} else if len(caught) > 0 {
				some++
			}
		}
	}
	if some < 100 || both < 30 {
		t.Errorf("too few traps of one kind: %d, %d", some, both)
	}
}

// P6.18: with one more door, or a lesser Cost.
func TestOtherCosts(t *testing.T) {
	d := dice(16)
	doors, costs := 0, 0
	isWorse := func(b, other api.BeastTrap) bool {
		worst, blind := leastIn(t, b), blindIn(t, b)
		if leastIn(t, other) > worst || blindIn(t, other) > blind {
			t.Fatalf("%v: Least = %d, Blind = %d; %v: %d, %d", b, worst, blind, other, leastIn(t, other), blindIn(t, other))
		}
		return leastIn(t, other) < worst
	}
	for _, b := range traps(16, 800, 20) {
		other := b
		if len(b.Doors) < api.MaxBeastDoors {
			other.Doors = slices.Insert(slices.Clone(b.Doors), d.below(len(b.Doors)+1), d.door(b.Chambers, 20))
			if isWorse(b, other) {
				doors++
			}
		}
		for i := range b.Doors {
			other.Doors = slices.Clone(b.Doors)
			other.Doors[i].Cost = d.below(b.Doors[i].Cost + 1)
			if isWorse(b, other) {
				costs++
			}
		}
	}
	if doors < 50 || costs < 200 {
		t.Errorf("too few traps of one kind: %d, %d", doors, costs)
	}
}

// times returns a trap in which all costs are so many times as great.
func times(b api.BeastTrap, many int) api.BeastTrap {
	b.Look *= many
	b.Eats *= many
	b.Doors = slices.Clone(b.Doors)
	for i := range b.Doors {
		b.Doors[i].Cost *= many
	}
	return b
}

// P6.18: if all costs are as many times as great; and Free is from 0 to Least.
func TestAsManyTimes(t *testing.T) {
	frees := 0
	for _, b := range traps(17, 250, 5) {
		for many := 2; many <= 4; many++ {
			other := times(b, many)
			for name, f := range map[string]func(api.BeastTrap) (int, api.Errno){
				"Least": beasts.Least,
				"Blind": beasts.Blind,
				"Way":   func(b api.BeastTrap) (int, api.Errno) { return beasts.Way(b, b.Chambers-1) },
				"Paid":  func(b api.BeastTrap) (int, api.Errno) { return beasts.Paid(b, b.Places[0]) },
			} {
				if is, was := orEndless(t, other)(f(other)), orEndless(t, b)(f(b)); is != was*many && was != endless || is != was && was == endless {
					t.Fatalf("%v: %s = %d; %d times it is %d", b, name, was, many, is)
				}
			}
			for i := range b.Doors {
				less := orEndless(t, b)(beasts.Free(b, i))
				if less == endless {
					continue
				}
				if more := must[int](t, other)(beasts.Free(other, i)); more != less*many || less < 0 || less > leastIn(t, b) {
					t.Fatalf("%v: Free of %d = %d, %d times it is %d; Least = %d", b, i, less, many, more, leastIn(t, b))
				}
				if less > 0 {
					frees++
				}
			}
		}
	}
	if frees < 200 {
		t.Errorf("too few doors: %d", frees)
	}
}

// P6.19.
func TestBehindSteps(t *testing.T) {
	d := dice(18)
	several := 0
	for _, b := range traps(18, 1500, 9) {
		list := d.steps(b, api.MaxBeastSteps)
		for _, chamber := range b.Places {
			at, _, answers, e := beasts.Run(b, list, chamber)
			now := must[[]int](t, b)(beasts.After(b, list, answers))
			if e != api.OK || !slices.Contains(now, at) {
				t.Fatalf("%v: Run of %v from %d: %d, %d; After = %v", b, list, chamber, at, e, now)
			}
			var ends []int
			for _, other := range b.Places {
				if at, _, same, _ := beasts.Run(b, list, other); slices.Equal(same, answers) {
					ends = append(ends, at)
				}
			}
			slices.Sort(ends)
			if ends = slices.Compact(ends); !slices.Equal(ends, now) {
				t.Fatalf("%v: behind %v, %v After = %v, not %v", b, list, answers, now, ends)
			}
			if len(now) > 1 {
				several++
			}
		}
	}
	if several < 200 {
		t.Errorf("too few steps: %d", several)
	}
}

// P6.20.
func TestThereAndBack(t *testing.T) {
	back, fewer := 0, 0
	for _, b := range traps(19, 400, 9) {
		for i, d := range b.Doors {
			for _, now := range subsets(b) {
				places := now.list()
				to := must[[]int](t, b)(beasts.Move(b, places, i))
				again := must[[]int](t, b)(beasts.Move(b, to, i))
				if len(to) > len(places) || d.B != sea && !slices.Equal(again, places) {
					t.Fatalf("%v: Move of %v, %d = %v, and again %v", b, places, i, to, again)
				}
				if d.B != sea && !slices.Equal(to, places) {
					back++
				}
				if len(to) < len(places) {
					fewer++
				}
			}
		}
	}
	if back < 1000 || fewer < 1000 {
		t.Errorf("too few moves of one kind: %d, %d", back, fewer)
	}
}

// P1: the largest traps, and all that plans are asked for in them.
func TestLargest(t *testing.T) {
	d := dice(20)
	all := slices.Repeat(steps(look(4), open(7)), 6)
	a := args{places: []int{sea, 0, 1, 2, 3, 4}, door: 7, steps: all, answers: []int{0, 1, 0, 0, 0, 0}, chamber: 4}
	errors(t, largest(), a, of(api.ErrNone, "After"))
	planned(t, largest(), map[string]int{})
	for range 12 {
		b := largest()
		b.Look, b.Eats = d.below(6), 1+d.below(api.MaxBeastEats)
		for i := range b.Doors {
			b.Doors[i].Cost = d.below(api.MaxBeastCost + 1)
		}
		planned(t, b, map[string]int{})
		best, _ := scriptOf(b)
		blind(t, b, best.cost, best.doors...)
	}
}

// any returns any number, most often one that could be right.
func (d *dice) any() int {
	if d.below(30) > 0 {
		return d.below(5) - 1
	}
	return []int{math.MinInt, math.MaxInt, -2, 20, 21, 1 << 40}[d.below(6)]
}

// list returns a list of any numbers, most often an ascending one.
func (d *dice) list(many int) []int {
	var list []int
	for range d.below(many) {
		list = append(list, d.any())
	}
	if d.below(6) > 0 {
		slices.Sort(list)
		list = slices.Compact(list)
	}
	return list
}

// P1: whatever the arguments are, each function returns, the same each time, and nothing beside an error.
func TestAnyArguments(t *testing.T) {
	d := dice(21)
	valid, wrong := 0, 0
	for range 60000 {
		b := api.BeastTrap{Chambers: 1 + d.any(), Seen: d.list(4), Look: d.any(), Eats: d.any(), Places: d.list(4)}
		for range d.below(5) {
			b.Doors = append(b.Doors, door(d.any(), d.any(), d.any()))
		}
		a := args{places: d.list(5), door: d.any(), answers: d.list(3), chamber: d.any()}
		for range d.below(5) {
			a.steps = append(a.steps, api.BeastStep{Kind: 1 + d.below(3), At: d.any()})
		}
		again := callAll(b, a)
		for i, got := range callAll(b, a) {
			if !reflect.DeepEqual(got, again[i]) || got.e != api.OK && !isZero(got.result) || beasts.Check(b) != api.OK && got.e != api.ErrBeast {
				t.Fatalf("%v, %v: %s = %v, %d, and then %v", b, a, got.name, got.result, got.e, again[i])
			}
			if got.e == api.OK {
				valid++
			} else if got.e == api.ErrArg {
				wrong++
			}
		}
	}
	if valid < 1000 || wrong < 1000 {
		t.Errorf("too few calls of one kind: %d, %d", valid, wrong)
	}
}
