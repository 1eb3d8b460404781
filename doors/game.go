package doors

import (
	"cmp"
	"iter"
	"math"
	"math/bits"
	"slices"

	"almadraba/api"
)

// places has, for each group, the chambers in which it can be: one, if the headman sees it.
type places [api.MaxDoorGroups]set

// scene is how many turns are left, which gates are open, and where the groups are.
type scene struct {
	turns int
	open  set
	at    places
}

// changed returns a scene in which some gates are changed.
func (s scene) changed(change set) scene {
	s.open ^= change
	return s
}

// game is a trap that is played.
type game struct {
	api.DoorTrap
	changes []set // all that can be changed in a turn, in order
	worths  map[scene]int
	behinds map[scene]int
}

// play returns a valid trap that is played.
func play(t api.DoorTrap) *game {
	g := &game{DoorTrap: t, worths: map[scene]int{}, behinds: map[scene]int{}}
	for gates := range 1 << len(t.Gates) {
		if change := set(gates); change.count() <= t.Hands {
			g.changes = append(g.changes, change)
		}
	}
	slices.SortFunc(g.changes, func(a, b set) int {
		return cmp.Or(cmp.Compare(a.count(), b.count()), slices.Compare(a.list(), b.list()))
	})
	return g
}

// first returns the scene before the first turn.
func (g *game) first() scene {
	s := scene{turns: g.Turns}
	for gate, door := range g.Gates {
		if door.Open {
			s.open |= setOf(gate)
		}
	}
	for group, fish := range g.Groups {
		s.at[group] = setOf(fish.At)
	}
	return s
}

// reach returns all chambers in which a group that was in one of some chambers can be behind its move.
func (g *game) reach(open, from set) set {
	var to set
	for chamber := range from.numbers {
		to |= g.ways(open, chamber)
	}
	return to
}

// ways returns all chambers to which a group can move out of a chamber.
func (g *game) ways(open set, chamber int) set {
	var to set
	for gate, door := range g.Gates {
		switch {
		case !open.has(gate):
		case door.A == chamber:
			to |= setOf(door.B)
		case door.B == chamber:
			to |= setOf(door.A)
		}
	}
	if to == 0 {
		return setOf(chamber)
	}
	return to
}

// moves returns the scenes behind all moves in a scene in which gates have been changed; the first moves come first.
func (g *game) moves(s scene) iter.Seq[scene] {
	return func(yield func(scene) bool) {
		next := scene{turns: s.turns - 1, open: s.open}
		var move func(group int) bool
		move = func(group int) bool {
			if group == len(g.Groups) {
				return yield(next)
			}
			for chamber := range g.reach(s.open, s.at[group]).numbers {
				next.at[group] = setOf(chamber)
				if !move(group + 1) {
					return false
				}
			}
			return true
		}
		move(0)
	}
}

// unseen returns the scene behind all moves at once: each group can be wherever it can have gone.
func (g *game) unseen(s scene) scene {
	s.turns--
	for group := range g.Groups {
		s.at[group] = g.reach(s.open, s.at[group])
	}
	return s
}

// last returns the last chamber.
func (g *game) last() set {
	return setOf(g.Chambers - 1)
}

// caught returns how many fish are surely in the last chamber.
func (g *game) caught(at places) int {
	sum := 0
	for group, fish := range g.Groups {
		if at[group] == g.last() {
			sum += fish.Fish
		}
	}
	return sum
}

// worth returns how many fish can surely be caught in a scene.
func (g *game) worth(s scene) int {
	if s.turns == 0 {
		return g.caught(s.at)
	}
	return kept(g.worths, s, func() int {
		most := 0
		for _, change := range g.changes {
			most = max(most, g.behind(s.changed(change)))
		}
		return most
	})
}

// behind returns how many fish can surely be caught in a scene in which gates have been changed.
func (g *game) behind(s scene) int {
	return kept(g.behinds, s, func() int {
		least := math.MaxInt
		for next := range g.moves(s) {
			least = min(least, g.worth(next))
		}
		return least
	})
}

// ahead returns the most that where the groups can be in the end is worth, if all changes are chosen before the first
// turn. The groups do not heed one another, so it is enough to know of each of them alone where it can be.
func (g *game) ahead(s scene, known map[scene]int, end func(places) int) int {
	if s.turns == 0 {
		return end(s.at)
	}
	return kept(known, s, func() int {
		most := 0
		for _, change := range g.changes {
			most = max(most, g.ahead(g.unseen(s.changed(change)), known, end))
		}
		return most
	})
}

// plan returns the first change with which the worth of a scene is reached.
func (g *game) plan(s scene) set {
	reaches := func(change set) bool { return g.behind(s.changed(change)) == g.worth(s) }
	return g.changes[slices.IndexFunc(g.changes, reaches)]
}

// reply returns the scene behind the first of the worst moves in a scene in which gates have been changed.
func (g *game) reply(s scene) scene {
	var worst scene
	for next := range g.moves(s) {
		if g.worth(next) == g.behind(s) {
			worst = next
			break
		}
	}
	return worst
}

// turn returns the scene behind a turn, and whether its change and its moves can be.
func (g *game) turn(s scene, change, moves []int) (scene, bool) {
	if !isChange(g.DoorTrap, change) {
		return s, false
	}
	for next := range g.moves(s.changed(setOf(change...))) {
		if slices.Equal(g.chambers(next), moves) {
			return next, true
		}
	}
	return s, false
}

// chambers returns the chamber of each group in a scene in which each is seen.
func (g *game) chambers(s scene) []int {
	var list []int
	for group := range g.Groups {
		list = append(list, bits.TrailingZeros8(uint8(s.at[group])))
	}
	return list
}

// trap returns the trap as it is in a scene in which each group is seen.
func (g *game) trap(s scene) api.DoorTrap {
	t := g.DoorTrap
	t.Turns, t.Gates, t.Groups = s.turns, slices.Clone(t.Gates), slices.Clone(t.Groups)
	for gate := range t.Gates {
		t.Gates[gate].Open = s.open.has(gate)
	}
	for group, chamber := range g.chambers(s) {
		t.Groups[group].At = chamber
	}
	return t
}

// kept returns what a map keeps for a scene; if it keeps nothing yet, this is found first.
func kept(known map[scene]int, s scene, find func() int) int {
	fish, is := known[s]
	if !is {
		fish = find()
		known[s] = fish
	}
	return fish
}
