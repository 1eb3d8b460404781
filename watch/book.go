package watch

import (
	"slices"

	"almadraba/api"
	"almadraba/counts"
)

// book is a valid book at work, with its stories in order.
type book struct {
	api.WatchBook
	stories []story
}

// start returns a book at work, or the first of the errors: of the book, of arguments that do not fit, of no story.
func start(b api.WatchBook, fit bool) (book, api.Errno) {
	if e := Check(b); e != api.OK {
		return book{}, e
	}
	if !fit {
		return book{}, api.ErrArg
	}
	w := open(b)
	if len(w.stories) == 0 {
		return book{}, api.ErrNone
	}
	return w, api.OK
}

// open returns a valid book at work.
func open(b api.WatchBook) book {
	w := book{WatchBook: b}
	for _, list := range lists(b.Trap.Times) {
		if s, is := w.tell(list); is {
			w.stories = append(w.stories, s)
		}
	}
	return w
}

// tell returns the story of a guess, and whether it is one.
func (b book) tell(g guess) (story, bool) {
	trap := b.without(func(word int) bool { return g.has(b.Trap.Words[word].Time) })
	return story{g, trap}, b.canBe(g) && hasTruth(trap)
}

// canBe reports whether a guess can be.
func (b book) canBe(g guess) bool {
	return len(g) <= b.Drunk && g.run() <= b.Run && !slices.ContainsFunc(b.Sober, g.has)
}

// without returns the trap without all words of which something is so.
func (b book) without(is func(word int) bool) api.CountTrap {
	trap := b.Trap
	trap.Words = nil
	for number, word := range b.Trap.Words {
		if !is(number) {
			trap.Words = append(trap.Words, word)
		}
	}
	return trap
}

// hasTruth reports whether a valid trap has a truth.
func hasTruth(t api.CountTrap) bool {
	_, e := counts.Truth(t)
	return e == api.OK
}

// agreed returns what is known of something that each story tells of: what all of them say, if that is the same.
func (b book) agreed(said func(story) int) int {
	known := said(b.stories[0])
	for _, s := range b.stories[1:] {
		if said(s) != known {
			return api.Perhaps
		}
	}
	return known
}

// drunk returns whether a time is in each story, in none, or in some.
func (b book) drunk(time int) int {
	return b.agreed(func(s story) int {
		if s.has(time) {
			return api.Surely
		}
		return api.Never
	})
}

// lies returns whether a word is false in each tale, in none, or in some.
func (b book) lies(word int) int {
	return b.agreed(func(s story) int {
		holds, _ := counts.Judge(s.trap, b.Trap.Words[word]) // surely, of a sober time: the trap has this word
		switch holds {
		case api.Surely:
			return api.Never
		case api.Never:
			return api.Surely
		}
		return api.Perhaps
	})
}

// ask returns the time of which the worse answer leaves the fewest stories, or ErrNone if there is one story only.
func (b book) ask() (int, api.Errno) {
	if len(b.stories) == 1 {
		return 0, api.ErrNone
	}
	best := 0
	for time := range b.Trap.Times {
		if b.left(time) < b.left(best) {
			best = time
		}
	}
	return best, api.OK
}

// left returns how many stories are left behind the worse answer of whether he was drunk at a time.
func (b book) left(time int) int {
	with := 0
	for _, s := range b.stories {
		if s.has(time) {
			with++
		}
	}
	return max(with, len(b.stories)-with)
}

// blame returns the first of the shortest lists of words without which the trap has a truth, and whose times can be a guess.
// All of them are false in each such truth, as fewer would be enough if one was not; and a tale with as few has such a list.
func (b book) blame() []int {
	for _, list := range lists(len(b.Trap.Words)) {
		if b.canBe(b.times(list)) && hasTruth(b.without(func(word int) bool { return slices.Contains(list, word) })) {
			return list
		}
	}
	return nil // not of a book with a story: the words of its times are such a list
}

// times returns the times of some words.
func (b book) times(words []int) guess {
	var g guess
	for _, word := range words {
		g = append(g, b.Trap.Words[word].Time)
	}
	slices.Sort(g)
	return slices.Compact(g)
}

// widest returns the least and the greatest number of all that are said of the traps of the stories.
func (b book) widest(said func(api.CountTrap) (api.Span, api.Errno)) api.Span {
	widest, _ := said(b.stories[0].trap)
	for _, s := range b.stories[1:] {
		span, _ := said(s.trap)
		widest.Low, widest.High = min(widest.Low, span.Low), max(widest.High, span.High)
	}
	return widest
}
