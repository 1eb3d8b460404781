// Package counts is layer 1: see shared/doc/01-counts.md.
package counts

import (
	"slices"

	"almadraba/api"
)

// Check returns ErrCount unless a trap is valid.
func Check(t api.CountTrap) api.Errno {
	if !valid(t) {
		return api.ErrCount
	}
	return api.OK
}

// Holds reports whether numbers are a truth.
func Holds(t api.CountTrap, numbers [][]int) (bool, api.Errno) {
	if e := Check(t); e != api.OK {
		return false, e
	}
	return isTruth(t, numbers), api.OK
}

// Truth returns a truth.
func Truth(t api.CountTrap) ([][]int, api.Errno) {
	w, e := start(t, true)
	if e != api.OK {
		return nil, e
	}
	return w.truth(), api.OK
}

// Fish returns between how many fish there are in a chamber at a time.
func Fish(t api.CountTrap, time, chamber int) (api.Span, api.Errno) {
	w, e := start(t, isPlace(t, time, chamber))
	if e != api.OK {
		return api.Span{}, e
	}
	return w.fish(api.CountPlace{Time: time, Chamber: chamber}), api.OK
}

// Whole returns between how many fish there are in the trap at a time.
func Whole(t api.CountTrap, time int) (api.Span, api.Errno) {
	w, e := start(t, isTime(t, time))
	if e != api.OK {
		return api.Span{}, e
	}
	return w.between(w.sum(time, 0), nothing), api.OK
}

// Came returns between how many fish come in from a time to another one.
func Came(t api.CountTrap, from, to int) (api.Span, api.Errno) {
	w, e := start(t, isTime(t, from) && isTime(t, to) && from <= to)
	if e != api.OK {
		return api.Span{}, e
	}
	return w.passed(0, from, to), api.OK
}

// Passed returns between how many fish pass a door in a step.
func Passed(t api.CountTrap, step, door int) (api.Span, api.Errno) {
	w, e := start(t, 0 <= step && step < len(t.Open) && 0 <= door && door < t.Chambers)
	if e != api.OK {
		return api.Span{}, e
	}
	return w.passed(door, step, step+1), api.OK
}

// Judge returns whether a word holds.
func Judge(t api.CountTrap, word api.CountWord) (int, api.Errno) {
	w, e := start(t, fits(t, word))
	if e != api.OK {
		return 0, e
	}
	return w.judge(word), api.OK
}

// Enough returns when there are so many fish in the last chamber.
func Enough(t api.CountTrap, fish int) (api.Span, api.Errno) {
	w, e := start(t, 1 <= fish && fish <= api.MaxCountFish)
	if e != api.OK {
		return api.Span{}, e
	}
	return w.enough(fish)
}

// Tell returns the greatest doubt behind a count at a place.
func Tell(t api.CountTrap, place api.CountPlace) (int, api.Errno) {
	w, e := start(t, isPlace(t, place.Time, place.Chamber))
	if e != api.OK {
		return 0, e
	}
	return w.tell(place), api.OK
}

// Ask returns the place that should be counted.
func Ask(t api.CountTrap) (api.CountPlace, api.Errno) {
	w, e := start(t, true)
	if e != api.OK {
		return api.CountPlace{}, e
	}
	return w.ask()
}

// Idle returns all words that say nothing more.
func Idle(t api.CountTrap) ([]int, api.Errno) {
	if _, e := start(t, true); e != api.OK {
		return nil, e
	}
	var idle []int
	for i, word := range t.Words {
		rest := t
		rest.Words = slices.Concat(t.Words[:i], t.Words[i+1:])
		if w, is := build(rest); is && w.judge(word) == api.Surely {
			idle = append(idle, i)
		}
	}
	return idle, api.OK
}
