package doors_test

import (
	"slices"
	"testing"

	"almadraba/api"
	"almadraba/doors"
)

// worthIn returns a worth that must be returned.
func worthIn(t *testing.T, trap api.DoorTrap) int {
	t.Helper()
	worth, e := doors.Worth(trap)
	if e != api.OK {
		t.Fatalf("%v: Worth: %d", trap, e)
	}
	return worth
}

// blindIn returns what Blind must return.
func blindIn(t *testing.T, trap api.DoorTrap) int {
	t.Helper()
	blind, e := doors.Blind(trap)
	if e != api.OK {
		t.Fatalf("%v: Blind: %d", trap, e)
	}
	return blind
}

// catchIn returns what Catch must return.
func catchIn(t *testing.T, trap api.DoorTrap, i int) int {
	t.Helper()
	catch, e := doors.Catch(trap, i)
	if e != api.OK {
		t.Fatalf("%v: Catch of %d: %d", trap, i, e)
	}
	return catch
}

// turned returns the trap behind a turn that can be.
func turned(t *testing.T, trap api.DoorTrap, change, moves []int) api.DoorTrap {
	t.Helper()
	after, e := doors.Play(trap, [][]int{change}, [][]int{moves})
	if e != api.OK {
		t.Fatalf("%v: Play of %v, %v: %d", trap, change, moves, e)
	}
	return after
}

// P3.12.
func TestPlan(t *testing.T) {
	better := 0
	for _, trap := range traps(6, 250) {
		if trap.Turns == 0 {
			continue
		}
		worth := worthIn(t, trap)
		plan, e := doors.Plan(trap)
		if e != api.OK {
			t.Fatalf("%v: Plan: %d", trap, e)
		}
		after, e := doors.After(trap, plan)
		number(t, trap, "After of Plan", after, e, worth)
		for _, change := range changesOf(trap) {
			other, e := doors.After(trap, change)
			if other > worth || e != api.OK {
				t.Fatalf("%v: After of %v = %d, %d; of Plan %d", trap, change, other, e, worth)
			}
			if other < worth {
				better++
			}
		}
		for _, moves := range movesOf(changed(trap, plan)) {
			if behind := worthIn(t, turned(t, trap, plan, moves)); behind < worth {
				t.Fatalf("%v: Worth = %d, behind Plan and %v %d", trap, worth, moves, behind)
			}
		}
	}
	if better < 50 {
		t.Errorf("too few traps of which the plan is better than others: %d", better)
	}
}

// P3.13.
func TestReply(t *testing.T) {
	worse := 0
	d := dice(7)
	for _, trap := range traps(7, 400) {
		if trap.Turns == 0 {
			continue
		}
		all := changesOf(trap)
		change := all[d.below(len(all))]
		after, e := doors.After(trap, change)
		reply, f := doors.Reply(trap, change)
		if e != api.OK || f != api.OK {
			t.Fatalf("%v: After: %d; Reply: %d", trap, e, f)
		}
		if behind := worthIn(t, turned(t, trap, change, reply)); behind != after {
			t.Fatalf("%v: After of %v = %d, behind the Reply %d", trap, change, after, behind)
		}
		for _, moves := range movesOf(changed(trap, change)) {
			behind := worthIn(t, turned(t, trap, change, moves))
			if behind < after {
				t.Fatalf("%v: After of %v = %d, behind %v %d", trap, change, after, moves, behind)
			}
			if behind > after {
				worse++
			}
		}
	}
	if worse < 50 {
		t.Errorf("too few traps of which the reply is worse than others: %d", worse)
	}
}

// P3.14.
func TestToTheEnd(t *testing.T) {
	caught := 0
	for _, trap := range traps(8, 400) {
		worth := worthIn(t, trap)
		end := trap
		for range trap.Turns {
			plan, e := doors.Plan(end)
			reply, f := doors.Reply(end, plan)
			if e != api.OK || f != api.OK {
				t.Fatalf("%v: Plan: %d; Reply: %d", end, e, f)
			}
			end = turned(t, end, plan, reply)
		}
		if fish := fishAt(end, end.Chambers-1); fish != worth || end.Turns != 0 {
			t.Fatalf("%v: Worth = %d, in the end there are %d fish in the last chamber of %v", trap, worth, fish, end)
		}
		if trap.Turns > 1 && worth > 0 {
			caught++
		}
	}
	if caught < 50 {
		t.Errorf("too few traps in which fish are caught: %d", caught)
	}
}

// P3.15.
func TestMore(t *testing.T) {
	d := dice(9)
	hands, gates, fishes := 0, 0, 0
	for _, trap := range traps(9, 500) {
		worth := worthIn(t, trap)
		if handy := trap; trap.Hands < api.MaxDoorHands {
			handy.Hands++
			more := worthIn(t, handy)
			if more < worth {
				t.Fatalf("%v: Worth = %d, with one more hand %d", trap, worth, more)
			}
			hands += more - worth
		}
		if wider := trap; len(trap.Gates) < api.MaxDoorGates && trap.Chambers > 1 {
			a, b := d.two(trap.Chambers)
			wider.Gates = slices.Insert(slices.Clone(trap.Gates), d.below(len(trap.Gates)+1), gate(a, b, false))
			more := worthIn(t, wider)
			if more < worth {
				t.Fatalf("%v: Worth = %d, with one more closed gate %d: %v", trap, worth, more, wider.Gates)
			}
			gates += more - worth
		}
		for i, g := range trap.Groups {
			if g.Fish == api.MaxDoorFish {
				continue
			}
			fuller := trap
			fuller.Groups = slices.Clone(trap.Groups)
			fuller.Groups[i].Fish++
			more := worthIn(t, fuller)
			if more != worth && more != worth+1 {
				t.Fatalf("%v: Worth = %d, with one more fish in %d %d", trap, worth, i, more)
			}
			fishes += more - worth
		}
	}
	if hands == 0 || gates == 0 || fishes == 0 {
		t.Errorf("nothing is ever more: %d, %d, %d", hands, gates, fishes)
	}
}

// P3.16.
func TestTogether(t *testing.T) {
	d := dice(10)
	together, more := 0, 0
	for _, trap := range traps(10, 2000) {
		if len(trap.Groups) < 2 || trap.Turns < 2 || trap.Chambers < 3 {
			continue
		}
		a, b := d.two(len(trap.Groups))
		apart, one := trap, trap
		apart.Groups = slices.Clone(trap.Groups)
		for i := range apart.Groups {
			apart.Groups[i].Fish /= len(apart.Groups)
		}
		apart.Groups[b].At = apart.Groups[a].At
		one.Groups = slices.Clone(apart.Groups)
		one.Groups[a].Fish += one.Groups[b].Fish
		one.Groups = slices.Delete(one.Groups, b, b+1)
		were, are := worthIn(t, apart), worthIn(t, one)
		if are < were {
			t.Fatalf("%v: Worth = %d, of %v together %d", apart, were, one.Groups, are)
		}
		together++
		if are > were {
			more++
		}
	}
	if together < 200 || more < 3 {
		t.Errorf("too few groups that become one: %d, %d", together, more)
	}
}

// P3.17.
func TestBlind(t *testing.T) {
	less, same := 0, 0
	for _, trap := range traps(11, 3000) {
		blind, worth := blindIn(t, trap), worthIn(t, trap)
		if blind > worth || trap.Turns <= 1 && blind != worth {
			t.Fatalf("%v: Blind = %d, Worth = %d", trap, blind, worth)
		}
		if blind < worth {
			less++
		}
		if trap.Turns == 1 && worth > 0 {
			same++
		}
	}
	if less < 10 || same < 10 {
		t.Errorf("too few traps of one kind: %d, %d", less, same)
	}
}

// P3.18.
func TestOneGroup(t *testing.T) {
	var found [4]int
	for _, trap := range traps(12, 400) {
		worth := worthIn(t, trap)
		for i, g := range trap.Groups {
			is := catchIn(t, trap, i)
			found[is]++
			alone := trap
			alone.Groups = trap.Groups[i : i+1]
			want := 0
			if is == api.Surely {
				want = g.Fish
			}
			if fish := worthIn(t, alone); fish != want || worth < want || catchIn(t, alone, 0) != is {
				t.Fatalf("%v: Catch of %d = %d; Worth = %d, alone %d", trap, i, is, worth, fish)
			}
		}
	}
	if slices.Min(found[1:]) < 50 {
		t.Errorf("too few groups of one kind: %v", found)
	}
}

// P3.19.
func TestAllClosed(t *testing.T) {
	for _, trap := range traps(13, 400) {
		want := fishAt(trap, trap.Chambers-1)
		over := trap
		over.Turns = 0
		shut := trap
		shut.Hands, shut.Gates = 0, slices.Clone(trap.Gates)
		for i := range shut.Gates {
			shut.Gates[i].Open = false
		}
		for _, still := range []api.DoorTrap{over, shut} {
			if worth, blind := worthIn(t, still), blindIn(t, still); worth != want || blind != want {
				t.Fatalf("%v: Worth = %d, Blind = %d, not %d", still, worth, blind, want)
			}
		}
		for i, g := range shut.Groups {
			catch := api.Never
			if g.At == trap.Chambers-1 {
				catch = api.Surely
			}
			ways, e := doors.Ways(shut, i)
			lists(t, shut, "Ways", [][]int{ways}, e, []int{g.At})
			if is, was := catchIn(t, shut, i), catchIn(t, over, i); is != catch || was != catch {
				t.Fatalf("%v: Catch of %d = %d, without turns %d", trap, i, is, was)
			}
		}
	}
}

// P3.20.
func TestOtherNumbers(t *testing.T) {
	d := dice(14)
	others := 0
	for _, trap := range traps(14, 400) {
		if trap.Chambers < 3 {
			continue
		}
		to := []int{0, 1, 2, 3}
		a, b := d.two(trap.Chambers - 1)
		to[a], to[b] = to[b], to[a]
		if c := d.below(trap.Chambers - 1); d.below(2) == 0 {
			to[0], to[c] = to[c], to[0]
		}
		other := trap
		other.Gates, other.Groups = slices.Clone(trap.Gates), slices.Clone(trap.Groups)
		for i, g := range trap.Gates {
			other.Gates[i].A, other.Gates[i].B = to[g.A], to[g.B]
		}
		for i, g := range trap.Groups {
			other.Groups[i].At = to[g.At]
		}
		if worthIn(t, trap) != worthIn(t, other) || blindIn(t, trap) != blindIn(t, other) {
			t.Fatalf("%v and %v: Worth or Blind is not the same", trap, other)
		}
		for i := range trap.Groups {
			if is, was := catchIn(t, other, i), catchIn(t, trap, i); is != was {
				t.Fatalf("%v and %v: Catch of %d = %d, %d", trap, other, i, was, is)
			}
		}
		if blindIn(t, trap) > 0 {
			others++
		}
	}
	if others < 50 {
		t.Errorf("too few traps in which fish are caught: %d", others)
	}
}
