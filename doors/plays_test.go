package doors_test

import (
	"slices"
	"testing"

	"almadraba/api"
	"almadraba/doors"
)

// dice is a row of numbers that are the same in each run.
type dice uint64

// below returns a number from 0 to below an end.
func (d *dice) below(end int) int {
	*d = *d*6364136223846793005 + 1442695040888963407
	return int(uint64(*d)>>33) % end
}

// two returns two different numbers from 0 to below an end.
func (d *dice) two(end int) (int, int) {
	a := d.below(end)
	return a, (a + 1 + d.below(end-1)) % end
}

// trap returns a trap of any size.
func (d *dice) trap() api.DoorTrap {
	t := api.DoorTrap{Chambers: 1 + d.below(api.MaxDoorChambers), Turns: d.below(api.MaxDoorTurns + 1), Hands: d.below(api.MaxDoorHands + 1)}
	if t.Chambers > 1 {
		for range d.below(api.MaxDoorGates + 1) {
			a, b := d.two(t.Chambers)
			t.Gates = append(t.Gates, gate(a, b, d.below(2) == 0))
		}
	}
	for range d.below(api.MaxDoorGroups + 1) {
		t.Groups = append(t.Groups, group(d.below(t.Chambers), d.below(api.MaxDoorFish+1)))
	}
	return t
}

// hardTrap returns a trap in which not all fish are easily caught: many gates are open, and there are few hands.
func (d *dice) hardTrap() api.DoorTrap {
	t := api.DoorTrap{Chambers: 3 + d.below(2), Turns: 1 + d.below(api.MaxDoorTurns), Hands: d.below(2)}
	for range 2 + d.below(api.MaxDoorGates-1) {
		a, b := d.two(t.Chambers)
		t.Gates = append(t.Gates, gate(a, b, d.below(4) > 0))
	}
	for range 1 + d.below(api.MaxDoorGroups) {
		t.Groups = append(t.Groups, group(d.below(t.Chambers), d.below(api.MaxDoorFish+1)))
	}
	return t
}

// traps returns so many traps, the same ones each time.
func traps(seed, many int) []api.DoorTrap {
	d := dice(seed)
	list := []api.DoorTrap{trapT(), trapO(), {Chambers: 1}}
	for range many / 2 {
		list = append(list, d.trap(), d.hardTrap())
	}
	return list
}

// smallTraps returns so many traps with fewer turns, so that they have few plays.
func smallTraps(seed, many int) []api.DoorTrap {
	list := traps(seed, many)
	for i := range list {
		for plays(list[i]) > 30000 {
			list[i].Turns--
		}
	}
	return list
}

// plays returns about how many plays a trap has.
func plays(t api.DoorTrap) int {
	each, all := len(changesOf(t)), 1
	for range t.Groups {
		each *= min(2, t.Chambers)
	}
	for range t.Turns {
		all *= each
	}
	return all
}

// changesOf returns all changes of a trap, in order: each is one of a gate less, and a greater gate.
func changesOf(t api.DoorTrap) [][]int {
	all := [][]int{{}}
	shorter := all
	for range t.Hands {
		var longer [][]int
		for _, change := range shorter {
			for gate := range t.Gates {
				if len(change) == 0 || change[len(change)-1] < gate {
					longer = append(longer, append(slices.Clone(change), gate))
				}
			}
		}
		all = append(all, longer...)
		shorter = longer
	}
	return all
}

// changed returns a trap in which a change has been made.
func changed(t api.DoorTrap, change []int) api.DoorTrap {
	t.Gates = slices.Clone(t.Gates)
	for _, i := range change {
		t.Gates[i].Open = !t.Gates[i].Open
	}
	return t
}

// waysOf returns all chambers to which a group can move with the gates as they are, ascending.
func waysOf(t api.DoorTrap, i int) []int {
	var list []int
	at := t.Groups[i].At
	for chamber := range t.Chambers {
		leads := func(g api.DoorGate) bool {
			return g.Open && (g.A == at && g.B == chamber || g.B == at && g.A == chamber)
		}
		if slices.ContainsFunc(t.Gates, leads) {
			list = append(list, chamber)
		}
	}
	if len(list) == 0 {
		return []int{at}
	}
	return list
}

// movesOf returns all moves with the gates as they are, compared number by number.
func movesOf(t api.DoorTrap) [][]int {
	all := [][]int{nil}
	for i := range t.Groups {
		var longer [][]int
		for _, moves := range all {
			for _, chamber := range waysOf(t, i) {
				longer = append(longer, append(slices.Clone(moves), chamber))
			}
		}
		all = longer
	}
	return all
}

// moved returns a trap behind some moves.
func moved(t api.DoorTrap, moves []int) api.DoorTrap {
	t.Turns--
	t.Groups = slices.Clone(t.Groups)
	for i, chamber := range moves {
		t.Groups[i].At = chamber
	}
	return t
}

// fishAt returns how many fish are in a chamber.
func fishAt(t api.DoorTrap, chamber int) int {
	sum := 0
	for _, g := range t.Groups {
		if g.At == chamber {
			sum += g.Fish
		}
	}
	return sum
}

// worthOf returns the worth of a trap, by all plays.
func worthOf(t api.DoorTrap) int {
	if t.Turns == 0 {
		return fishAt(t, t.Chambers-1)
	}
	most := 0
	for _, change := range changesOf(t) {
		least, _ := worst(changed(t, change))
		most = max(most, least)
	}
	return most
}

// worst returns the least worth behind any moves, and the first moves behind which it is so.
func worst(t api.DoorTrap) (int, []int) {
	least, first := -1, []int(nil)
	for _, moves := range movesOf(t) {
		if worth := worthOf(moved(t, moves)); least < 0 || worth < least {
			least, first = worth, moves
		}
	}
	return least, first
}

// luckyOf returns how many fish are caught if all do what is best for that.
func luckyOf(t api.DoorTrap) int {
	if t.Turns == 0 {
		return fishAt(t, t.Chambers-1)
	}
	most := 0
	for _, change := range changesOf(t) {
		behind := changed(t, change)
		for _, moves := range movesOf(behind) {
			most = max(most, luckyOf(moved(behind, moves)))
		}
	}
	return most
}

// blindOf returns the most fish that are caught by the same changes whatever the groups do.
func blindOf(t api.DoorTrap) int {
	rows := [][][]int{nil}
	for range t.Turns {
		var longer [][][]int
		for _, row := range rows {
			for _, change := range changesOf(t) {
				longer = append(longer, append(slices.Clone(row), change))
			}
		}
		rows = longer
	}
	most := 0
	for _, row := range rows {
		most = max(most, leastOf(t, row))
	}
	return most
}

// leastOf returns the least fish that are caught if these changes are made.
func leastOf(t api.DoorTrap, row [][]int) int {
	if len(row) == 0 {
		return fishAt(t, t.Chambers-1)
	}
	behind, least := changed(t, row[0]), api.MaxDoorFish*api.MaxDoorGroups
	for _, moves := range movesOf(behind) {
		least = min(least, leastOf(moved(behind, moves), row[1:]))
	}
	return least
}

// onlyFish returns a trap in which a group alone has fish: one.
func onlyFish(t api.DoorTrap, i int) api.DoorTrap {
	t.Groups = slices.Clone(t.Groups)
	for j := range t.Groups {
		t.Groups[j].Fish = 0
	}
	t.Groups[i].Fish = 1
	return t
}

// catchOf returns what Catch should.
func catchOf(t api.DoorTrap, i int) int {
	only := onlyFish(t, i)
	switch {
	case worthOf(only) == 1:
		return api.Surely
	case luckyOf(only) == 0:
		return api.Never
	}
	return api.Perhaps
}

// P3.2 and P3.3: of any trap.
func TestWaysAndChoicesOfAll(t *testing.T) {
	ways, choices := 0, 0
	for _, trap := range traps(1, 1500) {
		for i := range trap.Groups {
			want := waysOf(trap, i)
			list, e := doors.Ways(trap, i)
			lists(t, trap, "Ways", [][]int{list}, e, want)
			ways = max(ways, len(want))
		}
		want := changesOf(trap)
		all, e := doors.Choices(trap)
		lists(t, trap, "Choices", all, e, want...)
		choices = max(choices, len(want))
	}
	if ways != 3 || choices != 26 {
		t.Errorf("too small traps: %d ways, %d changes", ways, choices)
	}
}

// P3.4 to P3.7: the worth, the plan, and for each change what is behind it and the reply, by all plays.
func TestWorthOfPlays(t *testing.T) {
	var turns [api.MaxDoorTurns + 1]int
	plans, replies := 0, 0
	for _, trap := range smallTraps(2, 2000) {
		want := worthOf(trap)
		worth, e := doors.Worth(trap)
		number(t, trap, "Worth", worth, e, want)
		if trap.Turns == 0 {
			continue
		}
		planned := false
		for i, change := range changesOf(trap) {
			least, first := worst(changed(trap, change))
			after, e := doors.After(trap, change)
			number(t, trap, "After", after, e, least)
			reply, e := doors.Reply(trap, change)
			lists(t, trap, "Reply", [][]int{reply}, e, first)
			if len(first) > 0 && !slices.Equal(first, movesOf(changed(trap, change))[0]) {
				replies++
			}
			if planned || least < want {
				continue
			}
			planned = true
			plan, e := doors.Plan(trap)
			lists(t, trap, "Plan", [][]int{plan}, e, change)
			if i > 0 {
				plans++
			}
		}
		if worth > fishAt(trap, trap.Chambers-1) {
			turns[trap.Turns]++
		}
	}
	if slices.Min(turns[1:]) < 10 || plans < 50 || replies < 50 {
		t.Errorf("too few traps of one kind: %v, %d, %d", turns, plans, replies)
	}
}

// P3.9 and P3.11: by all plays.
func TestCatchAndBlindOfPlays(t *testing.T) {
	var found [4]int
	less := 0
	for _, trap := range smallTraps(3, 3000) {
		for i := range trap.Groups {
			want := catchOf(trap, i)
			catch, e := doors.Catch(trap, i)
			number(t, trap, "Catch", catch, e, want)
			found[want]++
		}
		want := blindOf(trap)
		blind, e := doors.Blind(trap)
		number(t, trap, "Blind", blind, e, want)
		if want < worthOf(trap) {
			less++
		}
	}
	if slices.Min(found[1:]) < 30 || less < 5 {
		t.Errorf("too few traps of one kind: %v, %d", found, less)
	}
}

// P3.10: by the worth with each number of turns.
func TestTurnsOfWorths(t *testing.T) {
	var found [api.MaxDoorTurns + 2]int
	more := 0
	for _, trap := range traps(4, 800) {
		var worths []int
		for turns := range api.MaxDoorTurns + 1 {
			with := trap
			with.Turns = turns
			worth, e := doors.Worth(with)
			if e != api.OK {
				t.Fatalf("%v: Worth: %d", with, e)
			}
			worths = append(worths, worth)
		}
		if !slices.IsSorted(worths) {
			more++
		}
		for _, fish := range append(worths, 0, 1, worths[0]+1, slices.Max(worths)+1) {
			want := slices.IndexFunc(worths, func(worth int) bool { return worth >= fish })
			turns, e := doors.Turns(trap, fish)
			if want < 0 {
				none(t, trap, "Turns", turns, e, api.ErrNone)
			} else {
				number(t, trap, "Turns", turns, e, want)
			}
			found[want+1]++
		}
	}
	if slices.Min(found[:]) < 10 || more < 10 {
		t.Errorf("too few traps of one kind: %v, %d", found, more)
	}
}

// row returns a row of turns that can be, and the trap behind it.
func (d *dice) row(t api.DoorTrap, turns int) (changes, moves [][]int, after api.DoorTrap) {
	for range turns {
		all := changesOf(t)
		changes = append(changes, all[d.below(len(all))])
		t = changed(t, changes[len(changes)-1])
		some := movesOf(t)
		moves = append(moves, some[d.below(len(some))])
		t = moved(t, moves[len(moves)-1])
	}
	return changes, moves, t
}

// P3.8: rows of turns, and rows in which one list is another one.
func TestPlayOfRows(t *testing.T) {
	d := dice(5)
	wrong := 0
	for _, trap := range traps(5, 1000) {
		turns := d.below(trap.Turns + 1)
		changes, moves, after := d.row(trap, turns)
		played(t, trap, changes, moves, after)
		if turns == 0 || len(trap.Groups) == 0 {
			continue
		}
		at := d.below(turns)
		_, _, before := d.row(trap, 0)
		for i := range at {
			before = moved(changed(before, changes[i]), moves[i])
		}
		before = changed(before, changes[at])
		odd := slices.Clone(moves)
		odd[at] = slices.Clone(moves[at])
		odd[at][d.below(len(trap.Groups))] = d.below(trap.Chambers)
		if slices.ContainsFunc(movesOf(before), func(l []int) bool { return slices.Equal(l, odd[at]) }) {
			continue
		}
		refused(t, trap, changes, odd, api.ErrArg)
		wrong++
	}
	if wrong < 100 {
		t.Errorf("too few wrong rows: %d", wrong)
	}
}
