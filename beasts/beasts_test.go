package beasts_test

import (
	"math"
	"reflect"
	"slices"
	"testing"

	"almadraba/api"
	"almadraba/beasts"
)

const sea = api.BeastSea

func door(a, b, cost int) api.BeastDoor { return api.BeastDoor{A: a, B: b, Cost: cost} }

func open(door int) api.BeastStep { return api.BeastStep{Kind: api.BeastOpen, At: door} }

func look(chamber int) api.BeastStep { return api.BeastStep{Kind: api.BeastLook, At: chamber} }

// steps is a list of steps.
func steps(list ...api.BeastStep) []api.BeastStep { return list }

// opens is the steps that open some doors.
func opens(doors ...int) []api.BeastStep {
	var list []api.BeastStep
	for _, d := range doors {
		list = append(list, open(d))
	}
	return list
}

// trapB is B of the chapter's examples.
func trapB() api.BeastTrap {
	return api.BeastTrap{
		Chambers: 3, Doors: []api.BeastDoor{door(0, sea, 5), door(0, 1, 2), door(1, 2, 1)},
		Seen: []int{1}, Look: 1, Eats: 1, Places: []int{1, 2},
	}
}

// trapWith is B with something changed.
func trapWith(change func(b *api.BeastTrap)) api.BeastTrap {
	b := trapB()
	change(&b)
	return b
}

// trapOf is a trap without looks, with some doors, in which each step costs 1 beside the door; the beast can be in some places.
func trapOf(doors []api.BeastDoor, places ...int) api.BeastTrap {
	return api.BeastTrap{Chambers: 5, Doors: doors, Eats: 1, Places: places}
}

// rowOf is a trap of so many chambers in a row, the first of which is at the sea.
func rowOf(chambers, cost int) api.BeastTrap {
	b := api.BeastTrap{Chambers: chambers, Eats: 1}
	for chamber := range chambers {
		b.Doors = append(b.Doors, door(chamber, chamber-1, cost))
		b.Places = append(b.Places, chamber)
	}
	return b
}

// largest is a trap with as much of everything as there can be.
func largest() api.BeastTrap {
	b := rowOf(api.MaxBeastChambers, api.MaxBeastCost)
	b.Doors = append(b.Doors, door(0, 4, 20), door(3, 1, 20), door(4, sea, 20))
	b.Seen, b.Look, b.Eats = []int{0, 1, 2, 3, 4}, api.MaxBeastCost, api.MaxBeastEats
	return b
}

// args is one of each kind of argument beside a trap.
type args struct {
	places  []int
	door    int
	steps   []api.BeastStep
	answers []int
	chamber int
}

// argsB are arguments that fit B.
func argsB() args {
	return args{places: []int{sea, 0, 2}, door: 2, steps: steps(open(1), look(1), open(0)), answers: []int{0}, chamber: 1}
}

// becomes is what Run says beside the answers.
type becomes struct{ at, lost int }

// answer is what a call returned.
type answer struct {
	name   string
	result any
	e      api.Errno
}

// callAll calls each function but Check.
func callAll(b api.BeastTrap, a args) []answer {
	move, e0 := beasts.Move(b, a.places, a.door)
	at, lost, answers, e1 := beasts.Run(b, a.steps, a.chamber)
	after, e2 := beasts.After(b, a.steps, a.answers)
	least, e3 := beasts.Least(b)
	next, e4 := beasts.Next(b)
	way, e5 := beasts.Way(b, a.chamber)
	trapped, e6 := beasts.Trapped(b)
	path, e7 := beasts.Path(b, a.chamber)
	paid, e8 := beasts.Paid(b, a.chamber)
	blind, e9 := beasts.Blind(b)
	script, e10 := beasts.Script(b)
	free, e11 := beasts.Free(b, a.door)
	return []answer{
		{"Move", move, e0}, {"Run", becomes{at, lost}, e1}, {"answers of Run", answers, e1}, {"After", after, e2},
		{"Least", least, e3}, {"Next", next, e4}, {"Way", way, e5}, {"Trapped", trapped, e6},
		{"Path", path, e7}, {"Paid", paid, e8}, {"Blind", blind, e9}, {"Script", script, e10}, {"Free", free, e11},
	}
}

// isZero reports whether a result is a zero value, or an empty list.
func isZero(result any) bool {
	v := reflect.ValueOf(result)
	return v.IsZero() || v.Kind() == reflect.Slice && v.Len() == 0
}

// errors checks that each call by a name returns nothing but its error, and that all others return none.
func errors(t *testing.T, b api.BeastTrap, a args, want map[string]api.Errno) {
	t.Helper()
	for _, got := range callAll(b, a) {
		if got.e != want[got.name] || got.e != api.OK && !isZero(got.result) {
			t.Errorf("%v: %s with %v = %v, %d, not the error %d", b, got.name, a, got.result, got.e, want[got.name])
		}
	}
}

// of has an error for some functions.
func of(e api.Errno, names ...string) map[string]api.Errno {
	want := map[string]api.Errno{}
	for _, name := range names {
		want[name] = e
	}
	return want
}

// all has an error for each function but Check.
func all(e api.Errno) map[string]api.Errno {
	want := map[string]api.Errno{}
	for _, got := range callAll(trapB(), argsB()) {
		want[got.name] = e
	}
	return want
}

// same checks what was returned.
func same[T any](t *testing.T, b api.BeastTrap, name string, got T, e api.Errno, want T) {
	t.Helper()
	if e != api.OK || !reflect.DeepEqual(got, want) && !(isZero(got) && isZero(want)) {
		t.Fatalf("%v: %s = %v, %d, not %v", b, name, got, e, want)
	}
}

// none checks that nothing was returned but ErrNone.
func none(t *testing.T, b api.BeastTrap, name string, got any, e api.Errno) {
	t.Helper()
	if e != api.ErrNone || !isZero(got) {
		t.Fatalf("%v: %s = %v, %d, not ErrNone", b, name, got, e)
	}
}

// move checks what Move returns.
func move(t *testing.T, b api.BeastTrap, places []int, door int, want ...int) {
	t.Helper()
	got, e := beasts.Move(b, places, door)
	same(t, b, "Move", got, e, want)
}

// run checks what Run returns.
func run(t *testing.T, b api.BeastTrap, list []api.BeastStep, chamber, at, lost int, answers ...int) {
	t.Helper()
	gotAt, gotLost, got, e := beasts.Run(b, list, chamber)
	same(t, b, "Run", becomes{gotAt, gotLost}, e, becomes{at, lost})
	same(t, b, "answers of Run", got, e, answers)
}

// after checks what After returns (nothing: ErrNone).
func after(t *testing.T, b api.BeastTrap, list []api.BeastStep, answers []int, want ...int) {
	t.Helper()
	got, e := beasts.After(b, list, answers)
	if len(want) == 0 {
		none(t, b, "After", got, e)
	} else {
		same(t, b, "After", got, e, want)
	}
}

// least checks what Least and Next return.
func least(t *testing.T, b api.BeastTrap, want int, first api.BeastStep) {
	t.Helper()
	got, e := beasts.Least(b)
	same(t, b, "Least", got, e, want)
	step, e := beasts.Next(b)
	same(t, b, "Next", step, e, first)
}

// way checks what Way returns (below 0: ErrNone).
func way(t *testing.T, b api.BeastTrap, chamber, want int) {
	t.Helper()
	got, e := beasts.Way(b, chamber)
	if want < 0 {
		none(t, b, "Way", got, e)
	} else {
		same(t, b, "Way", got, e, want)
	}
}

// trapped checks what Trapped returns.
func trapped(t *testing.T, b api.BeastTrap, want ...int) {
	t.Helper()
	got, e := beasts.Trapped(b)
	same(t, b, "Trapped", got, e, want)
}

// path checks what Path and Paid return.
func path(t *testing.T, b api.BeastTrap, chamber, paid int, want ...api.BeastStep) {
	t.Helper()
	got, e := beasts.Path(b, chamber)
	same(t, b, "Path", got, e, want)
	cost, e := beasts.Paid(b, chamber)
	same(t, b, "Paid", cost, e, paid)
}

// blind checks what Blind and Script return.
func blind(t *testing.T, b api.BeastTrap, want int, doors ...int) {
	t.Helper()
	got, e := beasts.Blind(b)
	same(t, b, "Blind", got, e, want)
	script, e := beasts.Script(b)
	same(t, b, "Script", script, e, opens(doors...))
}

// free checks what Free returns.
func free(t *testing.T, b api.BeastTrap, door, want int) {
	t.Helper()
	got, e := beasts.Free(b, door)
	same(t, b, "Free", got, e, want)
}

// The examples of the chapter, and the one of the document.
func TestExamples(t *testing.T) {
	b := trapB()
	move(t, b, []int{1, 2}, 1, 0, 2)
	move(t, b, []int{sea, 0}, 0, sea)
	run(t, b, steps(open(1), look(1), open(0)), 1, sea, 11, 0)
	run(t, b, steps(open(1), look(1), open(0)), 2, 2, 11, 0)
	after(t, b, steps(look(1), open(2)), []int{1}, 2)
	after(t, b, steps(look(1), open(2)), []int{0}, 1)
	after(t, b, steps(open(1), look(1)), []int{1})
	least(t, b, 13, look(1))
	way(t, b, 0, 6)
	way(t, b, 1, 9)
	way(t, b, 2, 11)
	trapped(t, b)
	path(t, b, 1, 11, look(1), open(1), open(0))
	path(t, b, 2, 13, look(1), open(2), open(1), open(0))
	blind(t, b, 20, 1, 0, 2, 1, 0)
	free(t, b, 0, 5)
	free(t, b, 2, 1)
}

// beyond has numbers that are not from one to another one.
func beyond(low, high int) []int {
	return []int{low - 1, high + 1, low - 7, high + 7, math.MinInt, math.MaxInt}
}

// wrongLists has lists that are not strictly ascending chambers of B, each for one reason.
func wrongLists() [][]int {
	return [][]int{
		{sea}, {sea, 0}, {3}, {0, 1, 2, 3}, {1, 1}, {0, 0, 1}, {0, 2, 2}, {1, 0}, {0, 2, 1}, {2, 1, 0}, {-2}, {0, -1}, {math.MinInt}, {0, math.MaxInt},
		{math.MaxInt, math.MinInt}, make([]int, 1000),
	}
}

// invalid has traps that are not valid, each for one reason.
func invalid() []api.BeastTrap {
	traps := []api.BeastTrap{{}, {Chambers: 1, Eats: 1}, {Chambers: 1, Places: []int{0}}, {Eats: 1, Places: []int{0}}}
	add := func(change func(b *api.BeastTrap)) { traps = append(traps, trapWith(change)) }
	for _, n := range append(beyond(1, api.MaxBeastChambers), 2) { // with 2 there are doors and places that are not in the trap
		add(func(b *api.BeastTrap) { b.Chambers = n })
	}
	for _, n := range append(beyond(0, 2), 1, sea) {
		add(func(b *api.BeastTrap) { b.Doors[1] = door(n, 1, 2) })
	}
	for _, n := range append(beyond(sea, 2), 0) {
		add(func(b *api.BeastTrap) { b.Doors[2] = door(0, n, 2) })
	}
	add(func(b *api.BeastTrap) { b.Doors[0] = door(sea, sea, 0) })
	for _, n := range beyond(0, api.MaxBeastCost) {
		add(func(b *api.BeastTrap) { b.Doors[0].Cost = n })
		add(func(b *api.BeastTrap) { b.Doors[2].Cost = n })
		add(func(b *api.BeastTrap) { b.Look = n })
	}
	add(func(b *api.BeastTrap) { b.Doors = slices.Repeat(b.Doors, 3) })
	add(func(b *api.BeastTrap) { b.Doors = slices.Repeat(b.Doors, 500) })
	for _, n := range beyond(1, api.MaxBeastEats) {
		add(func(b *api.BeastTrap) { b.Eats = n })
	}
	for _, l := range wrongLists() {
		add(func(b *api.BeastTrap) { b.Seen = l })
		add(func(b *api.BeastTrap) { b.Places = l })
	}
	add(func(b *api.BeastTrap) { b.Places = nil })
	add(func(b *api.BeastTrap) { b.Places = []int{} })
	return traps
}

// P6.1, and ErrBeast before all others.
func TestInvalidTraps(t *testing.T) {
	tooMany := args{places: []int{9, 9}, door: 99, steps: slices.Repeat(steps(open(99)), 13), answers: []int{7}, chamber: 99}
	for i, b := range invalid() {
		if e := beasts.Check(b); e != api.ErrBeast {
			t.Errorf("%d: Check of %v: %d", i, b, e)
		}
		for _, a := range []args{{}, argsB(), tooMany, {door: -1, chamber: -1, steps: make([]api.BeastStep, 99)}} {
			errors(t, b, a, all(api.ErrBeast))
		}
	}
}

// P6.1: what is just valid.
func TestValidTraps(t *testing.T) {
	traps := []api.BeastTrap{
		trapB(), largest(), rowOf(1, 0), rowOf(5, 20), {Chambers: 1, Eats: 1, Places: []int{0}}, {Chambers: 5, Eats: 9, Places: []int{4}},
		{Chambers: 2, Eats: 9, Look: 20, Seen: []int{1}, Places: []int{0}, Doors: []api.BeastDoor{door(1, 0, 0)}},
		{Chambers: 2, Eats: 1, Seen: []int{0, 1}, Places: []int{0, 1}, Doors: slices.Repeat([]api.BeastDoor{door(1, sea, 20)}, 8)},
	}
	for i, b := range traps {
		if e := beasts.Check(b); e != api.OK {
			t.Errorf("%d: Check of %v: %d", i, b, e)
		}
	}
}

// P6.2, P6.13: ErrArg for doors that the trap does not have, and for wrong places.
func TestWrongDoorsAndPlaces(t *testing.T) {
	for _, n := range beyond(0, 2) {
		a := argsB()
		a.door = n
		errors(t, trapB(), a, of(api.ErrArg, "Move", "Free"))
	}
	for _, l := range append(wrongLists()[2:], []int{sea, sea}, []int{sea, sea, 0}, []int{-2, 0}, []int{sea, 0, 1, 2, 3}, []int{0, sea}) {
		a := argsB()
		a.places = l
		errors(t, trapB(), a, of(api.ErrArg, "Move"))
	}
}

// P6.3, P6.7, P6.9, P6.10: ErrArg for chambers that the trap does not have, or that are not of the Places.
func TestWrongChambers(t *testing.T) {
	for _, n := range append(beyond(0, 2), sea) {
		a := argsB()
		a.chamber = n
		errors(t, trapB(), a, of(api.ErrArg, "Run", "answers of Run", "Way", "Path", "Paid"))
	}
	a := argsB()
	a.chamber = 0
	errors(t, trapB(), a, of(api.ErrArg, "Path", "Paid"))
}

// wrongSteps has steps that cannot be done in B.
func wrongSteps() []api.BeastStep {
	list := steps(look(0), look(2), look(sea), look(3), look(math.MinInt), look(math.MaxInt))
	for _, n := range beyond(0, 2) {
		list = append(list, open(n))
	}
	for _, kind := range beyond(api.BeastOpen, api.BeastLook) {
		list = append(list, api.BeastStep{Kind: kind, At: 1})
	}
	return list
}

// P6.3, P6.4: ErrArg for steps that cannot be done, wherever they come.
func TestWrongSteps(t *testing.T) {
	for _, wrong := range wrongSteps() {
		for at := range 3 {
			a := argsB()
			a.steps = slices.Insert(opens(0, 1), at, wrong)
			for _, answers := range [][]int{nil, {0}, {1}} {
				a.answers = answers
				errors(t, trapB(), a, of(api.ErrArg, "Run", "answers of Run", "After"))
			}
		}
	}
}

// P6.4: ErrArg unless there is an answer to each look.
func TestWrongAnswers(t *testing.T) {
	for _, x := range []struct {
		list    []api.BeastStep
		answers [][]int
	}{
		{nil, [][]int{{0}, {1}, make([]int, 1000)}},
		{opens(0, 1), [][]int{{0}, {0, 0}, {1}}},
		{steps(look(1)), [][]int{nil, {0, 0}, {2}, {-1}, {math.MinInt}, {math.MaxInt}}},
		{steps(look(1), open(1), look(1)), [][]int{nil, {0}, {0, 0, 0}, {0, 2}, {-1, 0}, {1, 9}}},
	} {
		for _, answers := range x.answers {
			a := argsB()
			a.steps, a.answers = x.list, answers
			errors(t, trapB(), a, of(api.ErrArg, "After"))
		}
	}
}

// ErrMany before ErrArg, also if the steps can be done; not with 12 steps.
func TestTooManySteps(t *testing.T) {
	ofSteps := func(e api.Errno) map[string]api.Errno { return of(e, "Run", "answers of Run", "After") }
	for _, step := range append(wrongSteps(), open(0), open(2)) {
		a := argsB()
		a.answers = nil
		for _, many := range []int{13, 14, 1000} {
			a.steps = slices.Repeat(steps(step), many)
			errors(t, trapB(), a, ofSteps(api.ErrMany))
		}
		a.answers = []int{7}
		errors(t, trapB(), a, ofSteps(api.ErrMany))
		a.chamber = 99
		got, e := beasts.After(trapB(), a.steps, a.answers)
		at, lost, answers, f := beasts.Run(trapB(), a.steps, a.chamber)
		if e != api.ErrMany || f != api.ErrMany || len(got)+at+lost+len(answers) != 0 {
			t.Errorf("After = %v, %d; Run = %d, %d, %v, %d", got, e, at, lost, answers, f)
		}
		a = argsB()
		a.steps, a.answers = slices.Repeat(steps(step), 12), nil
		if slices.Contains(wrongSteps(), step) {
			errors(t, trapB(), a, ofSteps(api.ErrArg))
		} else {
			errors(t, trapB(), a, nil)
		}
	}
	run(t, trapB(), slices.Repeat(steps(look(1)), 12), 1, 1, 24, slices.Repeat([]int{1}, 12)...)
	after(t, trapB(), slices.Repeat(steps(look(1)), 12), slices.Repeat([]int{1}, 12), 1)
	run(t, trapB(), nil, 2, 2, 0)
	after(t, trapB(), nil, nil, 1, 2)
}

// ErrNone if there is no plan, behind ErrArg.
func TestNoPlan(t *testing.T) {
	ofPlans := of(api.ErrNone, "Least", "Next", "Path", "Paid", "Blind", "Script", "Free")
	for _, b := range []api.BeastTrap{
		trapWith(func(b *api.BeastTrap) { b.Doors[2] = door(2, 1, 1); b.Doors[1] = door(0, sea, 2) }),
		trapWith(func(b *api.BeastTrap) { b.Doors[0] = door(0, 2, 5) }),
		trapWith(func(b *api.BeastTrap) { b.Doors = slices.Repeat(b.Doors[2:], 3) }),
	} {
		want := of(api.ErrNone, "Way")
		for name, e := range ofPlans {
			want[name] = e
		}
		errors(t, b, argsB(), want)
		a := argsB()
		a.chamber, a.door = 3, 3
		for _, name := range []string{"Run", "answers of Run", "Way", "Path", "Paid", "Move", "Free"} {
			want[name] = api.ErrArg
		}
		errors(t, b, a, want)
	}
	b := trapOf([]api.BeastDoor{door(0, sea, 1), door(2, 1, 1), door(4, 0, 3)}, 0, 1, 4)
	trapped(t, b, 1, 2, 3)
	for chamber, want := range []int{2, -1, -1, -1, 6} {
		way(t, b, chamber, want)
	}
	got, e := beasts.Path(b, 0)
	none(t, b, "Path", got, e) // there is a way out of the chamber 0, but no plan for all Places
	paid, e := beasts.Paid(b, 0)
	none(t, b, "Paid", paid, e)
	b.Places = []int{0, 4}
	least(t, b, 8, open(0))
	trapped(t, trapOf(nil, 3), 0, 1, 2, 3, 4)
}

// P6.2: both sides of a door, the sea, and no place at all.
func TestMove(t *testing.T) {
	b := largest()
	move(t, b, nil, 0)
	move(t, b, []int{sea}, 0, sea)
	move(t, b, []int{sea}, 3, sea)
	move(t, b, []int{0}, 0, sea)
	move(t, b, []int{4}, 7, sea)
	move(t, b, []int{sea, 4}, 7, sea)
	move(t, b, []int{0, 1}, 0, sea, 1)
	move(t, b, []int{0}, 1, 1)
	move(t, b, []int{1}, 1, 0)
	move(t, b, []int{0, 1}, 1, 0, 1)
	move(t, b, []int{0, 4}, 6, 0, 4)
	move(t, b, []int{1, 2, 4}, 6, 2, 3, 4)
	move(t, b, []int{sea, 0, 1, 2, 3, 4}, 5, sea, 0, 1, 2, 3, 4)
	move(t, b, []int{sea, 0, 1, 2, 3, 4}, 7, sea, 0, 1, 2, 3)
	move(t, b, []int{0, 2, 3, 4}, 4, 0, 2, 3, 4)
	move(t, b, []int{0, 2, 4}, 4, 0, 2, 3)
}

// P6.3: from chambers that are not of the Places, too; each step costs what it costs wherever the beast is.
func TestRun(t *testing.T) {
	b := trapB()
	b.Look, b.Eats, b.Seen = 3, 2, []int{0, 1}
	run(t, b, opens(0), 0, sea, 7)
	run(t, b, opens(0, 0, 1, 2), 0, sea, 7+7+4+3)
	run(t, b, steps(open(0), look(0), look(1)), 0, sea, 7+5+5, 0, 0)
	run(t, b, steps(look(0), open(0), look(0)), 0, sea, 5+7+5, 1, 0)
	run(t, b, steps(look(1), look(0)), 0, 0, 10, 0, 1)
	run(t, b, steps(look(0)), 2, 2, 5, 0)
	run(t, b, opens(1, 2), 2, 1, 7)
	run(t, b, opens(2, 1), 2, 0, 7)
	run(t, b, opens(2, 2), 2, 2, 6)
	b.Look = 0
	run(t, b, steps(look(1), open(2), look(1)), 2, 1, 2+3+2, 0, 1)
	run(t, largest(), slices.Repeat(opens(4), 12), 4, 4, 12*29)
}

// P6.4: what an answer says of where the beast was.
func TestAfter(t *testing.T) {
	b := trapB()
	b.Seen, b.Places = []int{0, 1, 2}, []int{0, 1, 2}
	after(t, b, nil, nil, 0, 1, 2)
	after(t, b, opens(0), nil, sea, 1, 2)
	after(t, b, opens(0, 1, 0, 2, 1, 0), nil, sea)
	after(t, b, steps(look(0)), []int{1}, 0)
	after(t, b, steps(look(0)), []int{0}, 1, 2)
	after(t, b, steps(look(0), look(1)), []int{0, 0}, 2)
	after(t, b, steps(look(0), look(1), look(2)), []int{0, 0, 0})
	after(t, b, steps(look(0), look(1)), []int{1, 1})
	after(t, b, steps(look(0), look(1)), []int{1, 0}, 0)
	after(t, b, steps(open(0), look(0)), []int{0}, sea, 1, 2)
	after(t, b, steps(open(0), look(0)), []int{1})
	after(t, b, steps(open(0), look(1), look(2)), []int{0, 0}, sea)
	after(t, b, steps(look(1), open(1), look(0), open(0)), []int{1, 1}, sea)
	after(t, b, steps(look(1), open(1), look(0), open(0)), []int{1, 0})
	after(t, b, steps(look(1), open(2), look(1), open(0)), []int{0, 0}, sea)
	b.Places = []int{2}
	after(t, b, steps(look(0)), []int{1})
	after(t, b, steps(look(0)), []int{0}, 2)
}

// P6.5, P6.6: a door comes ahead of a look, also one that is no better, and each with the least number.
func TestNext(t *testing.T) {
	b := trapOf([]api.BeastDoor{door(1, sea, 4), door(0, sea, 4)}, 0, 1)
	least(t, b, 10, open(0))
	b.Seen, b.Look = []int{0, 1}, 4
	least(t, b, 10, open(0)) // with a look the other plans cost as much
	b.Look = 3
	least(t, b, 9, look(0))
	b.Seen = []int{1, 2}
	least(t, b, 9, look(1))
	b.Seen = []int{2}
	least(t, b, 10, open(0))
	b.Doors[0], b.Doors[1] = door(2, sea, 4), door(0, sea, 9)
	b.Doors = append(b.Doors, door(1, sea, 2), door(1, sea, 2))
	b.Seen = nil
	least(t, b, 13, open(1))
	b.Doors[1].Cost = 2
	least(t, b, 6, open(1))
	b.Doors[1] = door(1, sea, 2)
	b.Doors = append(b.Doors, door(0, sea, 2))
	least(t, b, 6, open(1))
	b.Places = []int{0}
	least(t, b, 3, open(4))
}

// P6.5: what is lost is only what the worst place loses, and a look need not tell all.
func TestLeast(t *testing.T) {
	b := trapOf([]api.BeastDoor{door(0, sea, 20), door(1, sea, 1), door(2, sea, 1)}, 0, 1, 2)
	b.Seen, b.Look = []int{0, 1, 2}, 1
	least(t, b, 23, look(0))
	path(t, b, 0, 23, look(0), open(0))
	path(t, b, 1, 6, look(0), open(1), open(2))
	path(t, b, 2, 6, look(0), open(1), open(2))
	blind(t, b, 25, 0, 1, 2)
	b.Seen = []int{1}
	least(t, b, 25, open(0)) // to look into 1 is in vain, if the beast is in 0 or 2
	b.Doors[1].Cost = 6
	least(t, b, 25, open(2)) // to look into 1 first is as good
	path(t, b, 0, 25, open(2), look(1), open(0))
	path(t, b, 1, 11, open(2), look(1), open(1))
}

// P6.9: behind each answer only what is still to be lost counts, for all places in which the beast can be then.
func TestPath(t *testing.T) {
	b := trapOf([]api.BeastDoor{door(1, 0, 0), door(0, sea, 0), door(1, sea, 9), door(2, sea, 9), door(1, sea, 1)}, 1, 2)
	b.Seen, b.Look = []int{1}, 0
	least(t, b, 11, look(1))
	path(t, b, 1, 3, look(1), open(0), open(1)) // open 4 is as good, but comes later
	path(t, b, 2, 11, look(1), open(3))
	b.Places = []int{1}
	path(t, b, 1, 2, open(0), open(1))
	b = trapOf([]api.BeastDoor{door(0, sea, 0), door(1, sea, 0), door(2, sea, 9)}, 0, 1, 2)
	b.Seen, b.Look = []int{0}, 0
	least(t, b, 12, open(0))
	path(t, b, 0, 12, open(0), open(1), open(2))
	path(t, b, 2, 12, open(0), open(1), open(2))
}

// P6.11, P6.12: of plans that cost as much the one with the fewest steps, and of these the first one.
func TestScript(t *testing.T) {
	b := trapOf([]api.BeastDoor{door(1, 0, 0), door(0, sea, 0), door(1, sea, 1)}, 1)
	least(t, b, 2, open(0))
	blind(t, b, 2, 2) // open 0, open 1 comes ahead of it, but has more steps
	b.Doors[2].Cost = 2
	blind(t, b, 2, 0, 1)
	b = trapOf([]api.BeastDoor{door(3, sea, 1), door(0, sea, 3), door(0, sea, 3), door(3, sea, 1)}, 0, 3)
	blind(t, b, 6, 0, 1)
	b.Doors[0].Cost = 2
	blind(t, b, 6, 1, 3)
	b = trapOf([]api.BeastDoor{door(1, sea, 3), door(0, 1, 0), door(0, sea, 3)}, 0, 1)
	blind(t, b, 8, 0, 2)
	b.Doors[2].Cost = 4
	blind(t, b, 9, 0, 2)
	b.Doors[2].Cost = 6
	blind(t, b, 9, 0, 1, 0)
	b.Seen, b.Look = []int{0, 1}, 0
	least(t, b, 6, look(0))
	blind(t, b, 9, 0, 1, 0)
}

// P6.11, P6.12: a plan can have more steps than can be run.
func TestLongScript(t *testing.T) {
	b := rowOf(5, 0)
	blind(t, b, 15, 0, 1, 0, 2, 1, 0, 3, 2, 1, 0, 4, 3, 2, 1, 0)
	least(t, b, 15, open(0))
	path(t, b, 2, 15, opens(0, 1, 0, 2, 1, 0, 3, 2, 1, 0, 4, 3, 2, 1, 0)...)
	b = rowOf(5, 20)
	b.Eats = 9
	blind(t, b, 15*29, 0, 1, 0, 2, 1, 0, 3, 2, 1, 0, 4, 3, 2, 1, 0)
}

// P6.13: a free door can be used where another one was, and more often.
func TestFree(t *testing.T) {
	b := trapOf([]api.BeastDoor{door(1, 0, 3), door(0, sea, 4), door(1, sea, 6), door(2, 3, 7), door(1, sea, 20)}, 0, 1)
	least(t, b, 12, open(1)) // and then open 2
	free(t, b, 0, 1)         // by open 1, open 0, open 1
	free(t, b, 1, 6)         // by the same steps
	free(t, b, 2, 6)
	free(t, b, 3, 0)
	free(t, b, 4, 6)
	b.Doors[1].Cost = 0
	free(t, b, 1, 0)
}

// R3 and R4: empty lists are nil lists, results are new memory, and no argument is changed.
func TestMemory(t *testing.T) {
	bare := api.BeastTrap{Chambers: 2, Eats: 1, Places: []int{0}}
	empty := bare
	empty.Doors, empty.Seen = []api.BeastDoor{}, []int{}
	want := callAll(bare, args{})
	for i, got := range callAll(empty, args{places: []int{}, steps: steps(), answers: []int{}}) {
		if got.e != want[i].e || isZero(got.result) != isZero(want[i].result) {
			t.Errorf("%s of empty lists = %v, of nil lists %v", got.name, got, want[i])
		}
	}
	for _, make := range []func() api.BeastTrap{trapB, largest} {
		b, a := make(), argsB()
		first := callAll(make(), argsB())
		for range 2 {
			for i, got := range callAll(b, a) {
				if !reflect.DeepEqual(got, first[i]) {
					t.Errorf("%v: %s = %v, and then %v", b, got.name, first[i], got)
				}
				spoil(got.result)
			}
			if !reflect.DeepEqual(b, make()) || !reflect.DeepEqual(a, argsB()) {
				t.Fatalf("the arguments are changed: %v, %v", b, a)
			}
		}
	}
}

// spoil changes all of a list, and what is behind it.
func spoil(result any) {
	switch l := result.(type) {
	case []int:
		l = l[:cap(l)]
		for i := range l {
			l[i] = -9
		}
	case []api.BeastStep:
		l = l[:cap(l)]
		for i := range l {
			l[i] = open(-9)
		}
	}
}
