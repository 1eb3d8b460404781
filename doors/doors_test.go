package doors_test

import (
	"math"
	"reflect"
	"slices"
	"testing"

	"almadraba/api"
	"almadraba/doors"
)

func gate(a, b int, open bool) api.DoorGate { return api.DoorGate{A: a, B: b, Open: open} }

func group(at, fish int) api.DoorGroup { return api.DoorGroup{At: at, Fish: fish} }

// trapT is T of the chapter's examples.
func trapT() api.DoorTrap {
	return api.DoorTrap{
		Chambers: 3, Turns: 2, Hands: 1,
		Gates:  []api.DoorGate{gate(0, 1, true), gate(1, 2, false)},
		Groups: []api.DoorGroup{group(0, 10), group(1, 7)},
	}
}

// trapO is O of the chapter's examples.
func trapO() api.DoorTrap {
	return trapWith(func(t *api.DoorTrap) { t.Gates[0].Open = false })
}

// trapWith is T with something changed.
func trapWith(change func(t *api.DoorTrap)) api.DoorTrap {
	t := trapT()
	change(&t)
	return t
}

// largest is a trap with as much of everything as there can be.
func largest() api.DoorTrap {
	return api.DoorTrap{
		Chambers: 4, Turns: 4, Hands: 3,
		Gates:  []api.DoorGate{gate(0, 1, true), gate(1, 2, true), gate(3, 2, true), gate(0, 3, true), gate(2, 0, true)},
		Groups: []api.DoorGroup{group(0, 99), group(1, 99), group(3, 99)},
	}
}

// swing has the last chamber between two others, with open gates: fish are driven in and out.
func swing(turns, hands int, groups ...api.DoorGroup) api.DoorTrap {
	return api.DoorTrap{Chambers: 3, Turns: turns, Hands: hands, Gates: []api.DoorGate{gate(2, 1, true), gate(2, 0, true)}, Groups: groups}
}

// args is one of each kind of argument beside a trap.
type args struct {
	group, fish    int
	change         []int
	changes, moves [][]int
}

// answer is what a call returned.
type answer struct {
	name   string
	result any
	e      api.Errno
}

// callAll calls each function but Check.
func callAll(t api.DoorTrap, a args) []answer {
	ways, e0 := doors.Ways(t, a.group)
	choices, e1 := doors.Choices(t)
	worth, e2 := doors.Worth(t)
	plan, e3 := doors.Plan(t)
	after, e4 := doors.After(t, a.change)
	reply, e5 := doors.Reply(t, a.change)
	play, e6 := doors.Play(t, a.changes, a.moves)
	catch, e7 := doors.Catch(t, a.group)
	turns, e8 := doors.Turns(t, a.fish)
	blind, e9 := doors.Blind(t)
	return []answer{
		{"Ways", ways, e0}, {"Choices", choices, e1}, {"Worth", worth, e2}, {"Plan", plan, e3}, {"After", after, e4},
		{"Reply", reply, e5}, {"Play", play, e6}, {"Catch", catch, e7}, {"Turns", turns, e8}, {"Blind", blind, e9},
	}
}

// isZero reports whether a result is a zero value, or an empty list.
func isZero(result any) bool {
	v := reflect.ValueOf(result)
	return v.IsZero() || v.Kind() == reflect.Slice && v.Len() == 0
}

// isError checks that calls by these names return nothing but an error.
func isError(t *testing.T, trap api.DoorTrap, a args, want api.Errno, names ...string) {
	t.Helper()
	for _, got := range callAll(trap, a) {
		if slices.Contains(names, got.name) && (got.e != want || !isZero(got.result)) {
			t.Errorf("%v: %s with %v = %v, %d, not the error %d", trap, got.name, a, got.result, got.e, want)
		}
	}
}

// number checks a number that was returned.
func number(t *testing.T, trap api.DoorTrap, name string, got int, e api.Errno, want int) {
	t.Helper()
	if got != want || e != api.OK {
		t.Fatalf("%v: %s = %d, %d, not %d", trap, name, got, e, want)
	}
}

// none checks that nothing was returned but an error.
func none(t *testing.T, trap api.DoorTrap, name string, got int, e, want api.Errno) {
	t.Helper()
	if got != 0 || e != want {
		t.Fatalf("%v: %s = %d, %d, not the error %d", trap, name, got, e, want)
	}
}

// lists checks lists that were returned.
func lists(t *testing.T, trap api.DoorTrap, name string, got [][]int, e api.Errno, want ...[]int) {
	t.Helper()
	if !slices.EqualFunc(got, want, slices.Equal[[]int]) || e != api.OK {
		t.Fatalf("%v: %s = %v, %d, not %v", trap, name, got, e, want)
	}
}

// sameTrap reports whether two traps are the same; R3: a nil list is an empty one.
func sameTrap(a, b api.DoorTrap) bool {
	return a.Chambers == b.Chambers && a.Turns == b.Turns && a.Hands == b.Hands && slices.Equal(a.Gates, b.Gates) && slices.Equal(a.Groups, b.Groups)
}

// played checks the trap behind a row of turns.
func played(t *testing.T, trap api.DoorTrap, changes, moves [][]int, want api.DoorTrap) {
	t.Helper()
	if after, e := doors.Play(trap, changes, moves); !sameTrap(after, want) || e != api.OK {
		t.Fatalf("%v: Play of %v, %v = %v, %d, not %v", trap, changes, moves, after, e, want)
	}
}

// refused checks that a row of turns returns an error.
func refused(t *testing.T, trap api.DoorTrap, changes, moves [][]int, want api.Errno) {
	t.Helper()
	if after, e := doors.Play(trap, changes, moves); !isZero(after) || e != want {
		t.Fatalf("%v: Play of %v, %v = %v, %d, not the error %d", trap, changes, moves, after, e, want)
	}
}

// beyond has numbers that are not from one to another one.
func beyond(low, high int) []int {
	return []int{low - 1, high + 1, -7, math.MinInt, math.MaxInt}
}

// invalid has traps that are not valid, each for one reason.
func invalid() []api.DoorTrap {
	traps := []api.DoorTrap{{}, {Turns: 1, Hands: 1}, {Chambers: 1, Gates: []api.DoorGate{gate(0, 0, true)}}}
	add := func(change func(t *api.DoorTrap)) { traps = append(traps, trapWith(change)) }
	for _, n := range beyond(1, api.MaxDoorChambers) {
		add(func(t *api.DoorTrap) { t.Chambers = n })
		traps = append(traps, api.DoorTrap{Chambers: n})
	}
	for _, n := range beyond(0, api.MaxDoorTurns) {
		add(func(t *api.DoorTrap) { t.Turns = n })
	}
	for _, n := range beyond(0, api.MaxDoorHands) {
		add(func(t *api.DoorTrap) { t.Hands = n })
	}
	for _, n := range beyond(0, 2) {
		add(func(t *api.DoorTrap) { t.Gates[0].A = n })
		add(func(t *api.DoorTrap) { t.Gates[1].B = n })
		add(func(t *api.DoorTrap) { t.Gates[1].A, t.Gates[1].B = n, n })
		add(func(t *api.DoorTrap) { t.Groups[0].At = n })
		add(func(t *api.DoorTrap) { t.Groups[1] = group(n, 0) })
	}
	for _, n := range beyond(0, api.MaxDoorFish) {
		add(func(t *api.DoorTrap) { t.Groups[0].Fish = n })
		add(func(t *api.DoorTrap) { t.Groups[1].Fish = n })
	}
	add(func(t *api.DoorTrap) { t.Chambers = 2 })
	add(func(t *api.DoorTrap) { t.Gates[1] = gate(1, 1, false) })
	add(func(t *api.DoorTrap) { t.Gates[0] = gate(0, 0, true) })
	add(func(t *api.DoorTrap) { t.Gates = slices.Repeat(t.Gates, 3) })
	add(func(t *api.DoorTrap) { t.Groups = slices.Repeat(t.Groups, 2) })
	add(func(t *api.DoorTrap) { t.Groups = slices.Repeat([]api.DoorGroup{group(0, 0)}, 4) })
	return traps
}

// P3.1, and ErrDoor before all others.
func TestInvalidTraps(t *testing.T) {
	all := []string{"Ways", "Choices", "Worth", "Plan", "After", "Reply", "Play", "Catch", "Turns", "Blind"}
	odd := args{group: -1, fish: -1, change: []int{9}, changes: make([][]int, 9), moves: [][]int{{9}}}
	for i, trap := range invalid() {
		if e := doors.Check(trap); e != api.ErrDoor {
			t.Errorf("%d: Check of %v: %d", i, trap, e)
		}
		isError(t, trap, args{}, api.ErrDoor, all...)
		isError(t, trap, odd, api.ErrDoor, all...)
	}
}

// P3.1: what is just valid.
func TestValidTraps(t *testing.T) {
	traps := []api.DoorTrap{
		trapT(), trapO(), largest(), swing(0, 0), {Chambers: 1}, {Chambers: 4}, {Chambers: 1, Turns: 4, Hands: 3},
		{Chambers: 1, Groups: slices.Repeat([]api.DoorGroup{group(0, 0)}, 3)},
		{Chambers: 2, Gates: slices.Repeat([]api.DoorGate{gate(1, 0, false)}, 5)},
		trapWith(func(t *api.DoorTrap) { t.Groups[0].Fish = 0 }),
		trapWith(func(t *api.DoorTrap) { t.Groups[1] = group(2, 99) }),
	}
	for i, trap := range traps {
		if e := doors.Check(trap); e != api.OK {
			t.Errorf("%d: Check of %v: %d", i, trap, e)
		}
	}
}

// ErrArg for groups and numbers of fish that are none.
func TestWrongGroupsAndFish(t *testing.T) {
	for _, n := range beyond(0, 1) {
		isError(t, trapT(), args{group: n}, api.ErrArg, "Ways", "Catch")
	}
	for _, n := range []int{-1, -2, math.MinInt} {
		isError(t, trapT(), args{fish: n}, api.ErrArg, "Turns")
	}
	isError(t, api.DoorTrap{Chambers: 1}, args{}, api.ErrArg, "Ways", "Catch")
}

// wrongChanges has lists that are no changes of T with two hands.
func wrongChanges() [][]int {
	return [][]int{
		{-1}, {2}, {math.MinInt}, {math.MaxInt}, {0, 2}, {-1, 0}, {-1, 1}, {1, 0}, {0, 0}, {1, 1}, {0, 1, 1}, {0, 1, 2},
		{math.MinInt, math.MaxInt}, {math.MaxInt, math.MinInt}, {0, math.MinInt},
	}
}

// ErrArg for changes that are none, also if no turn is left.
func TestWrongChanges(t *testing.T) {
	for _, turns := range []int{0, 1, 2} {
		trap := trapWith(func(t *api.DoorTrap) { t.Turns, t.Hands = turns, 2 })
		for _, change := range wrongChanges() {
			isError(t, trap, args{change: change}, api.ErrArg, "After", "Reply")
		}
		trap.Hands = 1
		isError(t, trap, args{change: []int{0, 1}}, api.ErrArg, "After", "Reply")
		trap.Hands = 0
		isError(t, trap, args{change: []int{0}}, api.ErrArg, "After", "Reply")
		trap.Gates = nil
		isError(t, trap, args{change: []int{0}}, api.ErrArg, "After", "Reply")
	}
}

// ErrNone for Plan, After and Reply if no turn is left; the others have a result all the same.
func TestNoTurnLeft(t *testing.T) {
	trap := trapWith(func(t *api.DoorTrap) { t.Turns, t.Groups[1].At = 0, 2 })
	for _, change := range [][]int{nil, {}, {0}, {1}} {
		isError(t, trap, args{change: change}, api.ErrNone, "Plan", "After", "Reply")
	}
	want := []answer{
		{"Ways", []int{1}, 0}, {"Choices", [][]int{nil, {0}, {1}}, 0}, {"Worth", 7, 0}, {"Plan", []int(nil), api.ErrNone},
		{"After", 0, api.ErrNone}, {"Reply", []int(nil), api.ErrNone}, {"Play", trap, 0}, {"Catch", api.Never, 0}, {"Turns", 0, 0}, {"Blind", 7, 0},
	}
	if got := callAll(trap, args{fish: 7}); !sameAnswers(got, want) {
		t.Errorf("%v, not %v", got, want)
	}
}

// sameAnswers reports whether answers are the same; R3: a nil list is an empty one.
func sameAnswers(some, others []answer) bool {
	return slices.EqualFunc(some, others, func(a, b answer) bool {
		return a.name == b.name && a.e == b.e && sameResult(a.result, b.result)
	})
}

// sameResult reports whether two results are the same.
func sameResult(a, b any) bool {
	switch x := a.(type) {
	case []int:
		return slices.Equal(x, b.([]int))
	case [][]int:
		return slices.EqualFunc(x, b.([][]int), slices.Equal[[]int])
	case api.DoorTrap:
		return sameTrap(x, b.(api.DoorTrap))
	}
	return a == b
}

// Traps without groups, without gates, and of one chamber.
func TestSmallTraps(t *testing.T) {
	bare := api.DoorTrap{Chambers: 1, Turns: 1, Hands: 3}
	want := []answer{
		{"Ways", []int(nil), api.ErrArg}, {"Choices", [][]int{nil}, 0}, {"Worth", 0, 0}, {"Plan", []int(nil), 0}, {"After", 0, 0},
		{"Reply", []int(nil), 0}, {"Play", bare, 0}, {"Catch", 0, api.ErrArg}, {"Turns", 0, 0}, {"Blind", 0, 0},
	}
	if got := callAll(bare, args{}); !sameAnswers(got, want) {
		t.Errorf("%v, not %v", got, want)
	}
	one := api.DoorTrap{Chambers: 1, Turns: 4, Groups: []api.DoorGroup{group(0, 5)}}
	want = []answer{
		{"Ways", []int{0}, 0}, {"Choices", [][]int{nil}, 0}, {"Worth", 5, 0}, {"Plan", []int(nil), 0}, {"After", 5, 0},
		{"Reply", []int{0}, 0}, {"Play", one, 0}, {"Catch", api.Surely, 0}, {"Turns", 0, 0}, {"Blind", 5, 0},
	}
	if got := callAll(one, args{fish: 5}); !sameAnswers(got, want) {
		t.Errorf("%v, not %v", got, want)
	}
}

// P1: any arguments, none of which panics or goes on for ever.
func TestAnyArguments(t *testing.T) {
	numbers := []int{math.MinInt, -1, 0, 1, 3, 4, 99, math.MaxInt}
	for _, trap := range append(invalid(), trapT(), swing(4, 3), api.DoorTrap{Chambers: 1}) {
		for _, p := range numbers {
			for _, q := range numbers {
				rows := [][]int{{p, q}, nil, {q}}
				callAll(trap, args{group: p, fish: q, change: []int{p, q}, changes: rows, moves: rows})
				callAll(trap, args{group: q, fish: p, change: []int{q}, changes: [][]int{nil}, moves: rows[:1]})
			}
		}
	}
	for _, p := range numbers {
		for _, q := range numbers {
			odd := api.DoorTrap{Chambers: p, Turns: q, Hands: p, Gates: []api.DoorGate{gate(p, q, true)}, Groups: []api.DoorGroup{group(q, p)}}
			callAll(odd, args{group: p, fish: q, change: []int{p}, changes: [][]int{{q}}, moves: [][]int{{p}}})
		}
	}
	callAll(largest(), args{group: 2, fish: math.MaxInt, changes: make([][]int, 4), moves: make([][]int, 4)})
}

// R4: no argument is changed, and a result is new memory.
func TestMemory(t *testing.T) {
	fresh := func() (api.DoorTrap, args) {
		return trapWith(func(t *api.DoorTrap) { t.Hands = 2 }), args{change: []int{0, 1}, changes: [][]int{{1}}, moves: [][]int{{1, 0}}}
	}
	trap, a := fresh()
	trap.Gates = append(trap.Gates, gate(2, 0, true))[:2] // with room behind it
	trap.Groups = append(trap.Groups, group(2, 1))[:2]
	for _, got := range callAll(trap, a) {
		spoil(got.result)
	}
	same, e := doors.Play(trap, nil, nil)
	if spoil(same); e != api.OK {
		t.Errorf("Play of no turn: %d", e)
	}
	want, b := fresh()
	if !sameTrap(trap, want) || trap.Gates[:3][2] != gate(2, 0, true) || trap.Groups[:3][2] != group(2, 1) {
		t.Errorf("the trap was changed: %v", trap)
	}
	if !reflect.DeepEqual(a, b) {
		t.Errorf("the arguments were changed: %v", a)
	}
	if again, want := callAll(trap, a), callAll(want, b); !sameAnswers(again, want) {
		t.Errorf("%v, behind changes of what was returned before, not %v", again, want)
	}
	choices, e := doors.Choices(largest())
	for i := range choices {
		_ = append(choices[i], -7) // what is behind one list is not in another one
	}
	lists(t, largest(), "Choices", choices, e, changesOf(largest())...)
}

// spoil changes all lists of a result.
func spoil(result any) {
	switch x := result.(type) {
	case []int:
		for i := range x {
			x[i] = -7
		}
	case [][]int:
		for _, list := range x {
			spoil(list)
		}
	case api.DoorTrap:
		for i := range x.Gates {
			x.Gates[i] = gate(-7, -7, true)
		}
		for i := range x.Groups {
			x.Groups[i] = group(-7, -7)
		}
	}
}

// R3: a nil list and an empty one are the same.
func TestNilAndEmpty(t *testing.T) {
	none, empty := api.DoorTrap{Chambers: 2, Turns: 1}, api.DoorTrap{Chambers: 2, Turns: 1, Gates: []api.DoorGate{}, Groups: []api.DoorGroup{}}
	a, b := args{changes: [][]int{nil}, moves: [][]int{nil}}, args{change: []int{}, changes: [][]int{{}}, moves: [][]int{{}}}
	if x, y := callAll(none, a), callAll(empty, b); !sameAnswers(x, y) {
		t.Errorf("%v is not %v", x, y)
	}
	played(t, trapT(), [][]int{}, nil, trapT())
	played(t, trapT(), nil, [][]int{}, trapT())
}

// The examples of the chapter.
func TestExamples(t *testing.T) {
	trap, open := trapT(), trapO()
	ways, e := doors.Ways(trap, 0)
	lists(t, trap, "Ways", [][]int{ways}, e, []int{1})
	ways, e = doors.Ways(trap, 1)
	lists(t, trap, "Ways", [][]int{ways}, e, []int{0})
	ways, e = doors.Ways(open, 0)
	lists(t, open, "Ways", [][]int{ways}, e, []int{0})
	choices, e := doors.Choices(trap)
	lists(t, trap, "Choices", choices, e, nil, []int{0}, []int{1})
	for i, want := range []int{0, 7, 10} {
		after, e := doors.After(trap, choices[i])
		number(t, trap, "After", after, e, want)
	}
	worth, e := doors.Worth(trap)
	number(t, trap, "Worth", worth, e, 10)
	plan, e := doors.Plan(trap)
	lists(t, trap, "Plan", [][]int{plan}, e, []int{1})
	for _, change := range [][]int{nil, {1}} {
		reply, e := doors.Reply(trap, change)
		lists(t, trap, "Reply", [][]int{reply}, e, []int{1, 0})
	}
	blind, e := doors.Blind(trap)
	number(t, trap, "Blind", blind, e, 10)
	for i := range trap.Groups {
		catch, e := doors.Catch(trap, i)
		number(t, trap, "Catch", catch, e, api.Surely)
	}
	for fish, want := range map[int]int{10: 2, 11: 4} {
		turns, e := doors.Turns(trap, fish)
		number(t, trap, "Turns", turns, e, want)
	}
	turns, e := doors.Turns(trap, 18)
	none(t, trap, "Turns", turns, e, api.ErrNone)
	worth, e = doors.Worth(open)
	number(t, open, "Worth", worth, e, 7)
	plan, e = doors.Plan(open)
	lists(t, open, "Plan", [][]int{plan}, e, nil)
	after := trapWith(func(t *api.DoorTrap) { t.Turns, t.Gates[1].Open, t.Groups[0].At, t.Groups[1].At = 1, true, 1, 0 })
	played(t, trap, [][]int{{1}}, [][]int{{1, 0}}, after)
	worth, e = doors.Worth(after)
	number(t, after, "Worth", worth, e, 10)
}

// P3.2: two gates of the same chambers, gates from both sides, and closed ones.
func TestWays(t *testing.T) {
	trap := api.DoorTrap{
		Chambers: 4,
		Gates:    []api.DoorGate{gate(3, 1, true), gate(1, 0, true), gate(0, 1, true), gate(2, 1, false), gate(2, 0, false)},
		Groups:   []api.DoorGroup{group(1, 0), group(2, 9), group(3, 1)},
	}
	for i, want := range [][]int{{0, 3}, {2}, {1}} {
		ways, e := doors.Ways(trap, i)
		lists(t, trap, "Ways", [][]int{ways}, e, want)
	}
	trap.Gates[3].Open = true
	for i, want := range [][]int{{0, 2, 3}, {1}, {1}} {
		ways, e := doors.Ways(trap, i)
		lists(t, trap, "Ways", [][]int{ways}, e, want)
	}
}

// P3.3: without hands, with two and three, and with more hands than gates.
func TestChoices(t *testing.T) {
	trap := api.DoorTrap{Chambers: 2, Gates: slices.Repeat([]api.DoorGate{gate(0, 1, false)}, 4)}
	one := [][]int{nil, {0}, {1}, {2}, {3}}
	two := append(slices.Clone(one), [][]int{{0, 1}, {0, 2}, {0, 3}, {1, 2}, {1, 3}, {2, 3}}...)
	three := append(slices.Clone(two), [][]int{{0, 1, 2}, {0, 1, 3}, {0, 2, 3}, {1, 2, 3}}...)
	for hands, want := range [][][]int{{nil}, one, two, three} {
		trap.Hands = hands
		choices, e := doors.Choices(trap)
		lists(t, trap, "Choices", choices, e, want...)
	}
	trap.Gates = trap.Gates[:2]
	choices, e := doors.Choices(trap)
	lists(t, trap, "Choices", choices, e, nil, []int{0}, []int{1}, []int{0, 1})
	trap.Gates = nil
	choices, e = doors.Choices(trap)
	lists(t, trap, "Choices", choices, e, nil)
}

// P3.4 and P3.10: what must move is driven out again, so that more turns can be worth less.
func TestDrivenInAndOut(t *testing.T) {
	for turns, want := range []int{0, 10, 0, 10, 0} {
		trap := swing(turns, 0, group(0, 10))
		worth, e := doors.Worth(trap)
		number(t, trap, "Worth", worth, e, want)
	}
	for turns, want := range []int{6, 10, 6, 10, 6} { // which chamber a group comes from does not matter
		trap := swing(turns, 0, group(0, 4), group(2, 6), group(1, 6))
		worth, e := doors.Worth(trap)
		number(t, trap, "Worth", worth, e, want)
	}
	trap := swing(2, 0, group(0, 4), group(2, 6), group(1, 6))
	for fish, want := range map[int]int{0: 0, 6: 0, 7: 1, 10: 1} {
		turns, e := doors.Turns(trap, fish)
		number(t, trap, "Turns", turns, e, want)
	}
	for _, fish := range []int{11, 16, 17, 300, math.MaxInt} {
		turns, e := doors.Turns(trap, fish)
		none(t, trap, "Turns", turns, e, api.ErrNone)
	}
}

// P3.5 to P3.7: of changes, and of moves, that are worth the same the first one.
func TestFirstOfSeveral(t *testing.T) {
	trap := api.DoorTrap{Chambers: 2, Turns: 1, Hands: 2, Gates: slices.Repeat([]api.DoorGate{gate(0, 1, false)}, 3), Groups: []api.DoorGroup{group(0, 3)}}
	plan, e := doors.Plan(trap)
	lists(t, trap, "Plan", [][]int{plan}, e, []int{0}) // not 1 or 2, and not 0 1
	trap = swing(2, 0, group(2, 5), group(0, 1), group(2, 7))
	trap.Hands = 1
	for i, want := range [][]int{{0, 2, 0}, {0, 2, 0}, {1, 0, 1}} {
		reply, e := doors.Reply(trap, [][]int{nil, {0}, {1}}[i])
		lists(t, trap, "Reply", [][]int{reply}, e, want)
	}
	trap = swing(2, 3, group(0, 4))
	plan, e = doors.Plan(trap)
	lists(t, trap, "Plan", [][]int{plan}, e, nil) // it is in the last chamber behind this turn, and is shut in in the next one
}

// P3.7: the worst moves are not always the first ones.
func TestWorstReply(t *testing.T) {
	trap := api.DoorTrap{
		Chambers: 4, Turns: 2, Hands: 1,
		Gates:  []api.DoorGate{gate(0, 1, true), gate(0, 2, true), gate(1, 3, true)},
		Groups: []api.DoorGroup{group(0, 9)},
	}
	after, e := doors.After(trap, nil)
	number(t, trap, "After", after, e, 0)
	reply, e := doors.Reply(trap, nil)
	lists(t, trap, "Reply", [][]int{reply}, e, []int{2})
	after, e = doors.After(trap, []int{1})
	number(t, trap, "After", after, e, 9)
	reply, e = doors.Reply(trap, []int{1})
	lists(t, trap, "Reply", [][]int{reply}, e, []int{1})
	plan, e := doors.Plan(trap)
	lists(t, trap, "Plan", [][]int{plan}, e, []int{1})
}

// P3.8: turns one behind the other, and as many as there are.
func TestPlay(t *testing.T) {
	trap := trapT()
	after := trapWith(func(t *api.DoorTrap) { t.Turns, t.Gates[1].Open, t.Groups[1].At = 0, true, 2; t.Gates[0].Open = false })
	played(t, trap, [][]int{{1}, {0}}, [][]int{{1, 2}, {2, 1}}, trapWith(func(t *api.DoorTrap) {
		t.Turns, t.Gates[0].Open, t.Gates[1].Open, t.Groups[0].At, t.Groups[1].At = 0, false, true, 2, 1
	}))
	played(t, trap, [][]int{{0}, {1}}, [][]int{{0, 1}, {0, 2}}, after)
	played(t, trap, nil, nil, trap)
	for _, moves := range [][]int{{0, 0}, {1, 1}, {2, 0}, {1}, {1, 0, 0}, {}, {-1, 0}, {1, 3}, {math.MinInt, math.MaxInt}} {
		refused(t, trap, [][]int{nil}, [][]int{moves}, api.ErrArg)
		refused(t, trap, [][]int{nil, nil}, [][]int{{1, 0}, moves}, api.ErrArg)
	}
	refused(t, trap, [][]int{{0}, {0}}, [][]int{{0, 1}, {0, 1}}, api.ErrArg) // the gate is open again
	refused(t, trap, [][]int{{0, 1}}, [][]int{{0, 2}}, api.ErrArg)           // there is one hand
	trap.Hands = 2
	for _, change := range wrongChanges() {
		refused(t, trap, [][]int{change}, [][]int{{1, 0}}, api.ErrArg)
		refused(t, trap, [][]int{nil, change}, [][]int{{1, 0}, {0, 1}}, api.ErrArg)
	}
}

// P3.8: the errors of numbers of lists, whatever the lists are.
func TestPlayOfNumbersOfLists(t *testing.T) {
	trap, wrong := trapT(), []int{-5, 99}
	for changes := range 5 {
		for moves := range 5 {
			want := api.ErrArg
			if changes == moves && changes > trap.Turns {
				want = api.ErrNone
			}
			if changes == moves && changes == 0 {
				continue
			}
			refused(t, trap, slices.Repeat([][]int{wrong}, changes), slices.Repeat([][]int{wrong}, moves), want)
		}
	}
	refused(t, trap, make([][]int, 3), [][]int{{1, 0}, {0, 1}, {1, 0}}, api.ErrNone)
	refused(t, trap, make([][]int, 3), [][]int{{1, 0}, {0, 1}}, api.ErrArg)
	trap.Turns = 0
	refused(t, trap, [][]int{wrong}, [][]int{wrong}, api.ErrNone)
	refused(t, trap, [][]int{wrong}, nil, api.ErrArg)
	refused(t, trap, nil, [][]int{wrong}, api.ErrArg)
}

// P3.9: also of groups without fish.
func TestCatch(t *testing.T) {
	trap := api.DoorTrap{
		Chambers: 4, Turns: 1,
		Gates:  []api.DoorGate{gate(0, 1, true), gate(0, 3, true), gate(1, 2, false)},
		Groups: []api.DoorGroup{group(0, 0), group(2, 99), group(3, 0)},
	}
	for turns, want := range [][]int{{api.Never, api.Never, api.Surely}, {api.Perhaps, api.Never, api.Never}, {api.Never, api.Never, api.Perhaps}} {
		trap.Turns = turns
		for i, is := range want {
			catch, e := doors.Catch(trap, i)
			number(t, trap, "Catch", catch, e, is)
		}
	}
	trap.Hands = 1
	for i, is := range []int{api.Surely, api.Never, api.Surely} { // the gate 0, or the gate 1, is closed
		trap.Turns = 1
		catch, e := doors.Catch(trap, i)
		number(t, trap, "Catch", catch, e, is)
	}
}

// P3.11: the headman must see to which side the second group goes, and close the gate behind it.
func TestBlindIsLess(t *testing.T) {
	trap := swing(3, 1, group(0, 56), group(2, 34))
	worth, e := doors.Worth(trap)
	number(t, trap, "Worth", worth, e, 90)
	blind, e := doors.Blind(trap)
	number(t, trap, "Blind", blind, e, 56)
}
