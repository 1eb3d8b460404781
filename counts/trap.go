package counts

import (
	"slices"

	"almadraba/api"
)

// trap is a trap at work.
type trap struct {
	api.CountTrap
	bounds
}

// build returns a valid trap at work, and whether it has a truth.
func build(t api.CountTrap) (*trap, bool) {
	w := &trap{CountTrap: t, bounds: widest()}
	return w, w.fill() && w.move() && w.hear()
}

// start returns a trap at work, or the first of the errors: of the trap, of arguments that do not fit, of no truth.
func start(t api.CountTrap, fit bool) (*trap, api.Errno) {
	if e := Check(t); e != api.OK {
		return nil, e
	}
	if !fit {
		return nil, api.ErrArg
	}
	w, is := build(t)
	if !is {
		return nil, api.ErrNone
	}
	return w, api.OK
}

// fill takes in that there are at least 0 fish at each place.
func (w *trap) fill() bool {
	for p := range w.places {
		if !w.say(p, api.Span{High: api.MaxCountFish}) {
			return false
		}
	}
	return true
}

// move takes in that fish have only gone on, through open doors.
func (w *trap) move() bool {
	for step, open := range w.Open {
		for door := range w.Chambers {
			pass := api.Span{}
			if slices.Contains(open, door) {
				pass.High = api.MaxCountFish
			}
			if !w.within(w.sum(step+1, door), w.sum(step, door), pass) {
				return false
			}
		}
	}
	return true
}

// hear takes in all words.
func (w *trap) hear() bool {
	for _, word := range w.Words {
		p := api.CountPlace{Time: word.Time, Chamber: word.Chamber}
		if !w.say(p, api.Span{Low: word.Low, High: word.High}) {
			return false
		}
	}
	return true
}

// say takes in between how many fish there are at a place, and reports whether this can be.
func (w *trap) say(p api.CountPlace, s api.Span) bool {
	return w.within(w.sum(p.Time, p.Chamber), w.sum(p.Time, p.Chamber+1), s)
}

// sum returns the number of the sum of a chamber and those behind it.
func (w *trap) sum(time, chamber int) int {
	if chamber == w.Chambers {
		return nothing
	}
	return 1 + time*api.MaxCountChambers + chamber
}

// places yields all places, by their times, and by their chambers at each time.
func (w *trap) places(yield func(api.CountPlace) bool) {
	for time := range w.Times {
		for chamber := range w.Chambers {
			if !yield(api.CountPlace{Time: time, Chamber: chamber}) {
				return
			}
		}
	}
}

// last returns the last chamber at the last time.
func (w *trap) last() api.CountPlace {
	return api.CountPlace{Time: w.Times - 1, Chamber: w.Chambers - 1}
}

// fish returns between how many fish there are at a place.
func (w *trap) fish(p api.CountPlace) api.Span {
	return w.between(w.sum(p.Time, p.Chamber), w.sum(p.Time, p.Chamber+1))
}

// passed returns between how many fish pass a door from a time to another one.
func (w *trap) passed(door, from, to int) api.Span {
	return w.between(w.sum(to, door), w.sum(from, door))
}

// judge returns what is known of whether a word holds.
func (w *trap) judge(word api.CountWord) int {
	s := w.fish(api.CountPlace{Time: word.Time, Chamber: word.Chamber})
	switch {
	case word.Low <= s.Low && s.High <= word.High:
		return api.Surely
	case word.High < s.Low || s.High < word.Low:
		return api.Never
	}
	return api.Perhaps
}

// enough returns between which times there are first so many fish in the last chamber.
func (w *trap) enough(fish int) (api.Span, api.Errno) {
	earliest := -1
	for time := range w.Times { // no fish leaves the last chamber, so each end is reached once
		s := w.fish(api.CountPlace{Time: time, Chamber: w.Chambers - 1})
		if earliest < 0 && s.High >= fish {
			earliest = time
		}
		if s.Low >= fish {
			return api.Span{Low: earliest, High: time}, api.OK
		}
	}
	return api.Span{}, api.ErrNone
}

// doubt returns the doubt of a trap.
func (w *trap) doubt() int {
	s := w.fish(w.last())
	return s.High - s.Low
}

// tell returns the greatest doubt behind a count at a place.
func (w *trap) tell(p api.CountPlace) int {
	greatest := 0
	s := w.fish(p)
	for fish := s.Low; fish <= s.High; fish++ {
		counted := *w
		if counted.say(p, api.Span{Low: fish, High: fish}) {
			greatest = max(greatest, counted.doubt())
		}
	}
	return greatest
}

// ask returns the place with the least tell, but for the last one; ErrNone if nothing is to be asked.
func (w *trap) ask() (api.CountPlace, api.Errno) {
	best, least := w.last(), w.doubt()
	if least == 0 {
		return api.CountPlace{}, api.ErrNone
	}
	for p := range w.places {
		if p == w.last() {
			continue
		}
		if d := w.tell(p); best == w.last() || d < least {
			best, least = p, d
		}
	}
	if best == w.last() {
		return api.CountPlace{}, api.ErrNone
	}
	return best, api.OK
}

// truth returns the truth in which each sum is the least that it can be: all of them can be so at once.
func (w *trap) truth() [][]int {
	numbers := make([][]int, w.Times)
	for time := range numbers {
		numbers[time] = make([]int, w.Chambers)
		for chamber := range numbers[time] {
			numbers[time][chamber] = w.least(time, chamber) - w.least(time, chamber+1)
		}
	}
	return numbers
}

// least returns the least number of fish in a chamber and in all behind it.
func (w *trap) least(time, chamber int) int {
	return w.between(w.sum(time, chamber), nothing).Low
}
