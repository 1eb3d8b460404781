package watch_test

import (
	"slices"
	"testing"

	"almadraba/api"
	"almadraba/counts"
	"almadraba/watch"
)

// got returns a function that returns what was returned without an error.
func got[T any](t *testing.T, b api.WatchBook) func(T, api.Errno) T {
	return func(result T, e api.Errno) T {
		t.Helper()
		if e != api.OK {
			t.Fatalf("%v: the error %d", b, e)
		}
		return result
	}
}

func isGood(t *testing.T, b api.WatchBook, guess []int) bool {
	t.Helper()
	return got[bool](t, b)(watch.Good(b, guess))
}

func storiesIn(t *testing.T, b api.WatchBook) int {
	t.Helper()
	return got[int](t, b)(watch.Stories(b))
}

func mustOf(t *testing.T, b api.WatchBook) []int {
	t.Helper()
	return got[[]int](t, b)(watch.Must(b))
}

func leastOf(t *testing.T, b api.WatchBook) []int {
	t.Helper()
	return got[[]int](t, b)(watch.Least(b))
}

func blameOf(t *testing.T, b api.WatchBook) []int {
	t.Helper()
	return got[[]int](t, b)(watch.Blame(b))
}

func falseOf(t *testing.T, b api.WatchBook) int {
	t.Helper()
	return got[int](t, b)(watch.False(b))
}

func liesOf(t *testing.T, b api.WatchBook, word int) int {
	t.Helper()
	return got[int](t, b)(watch.Lies(b, word))
}

// spansOf returns all of Fish and Came.
func spansOf(t *testing.T, b api.WatchBook) []api.Span {
	t.Helper()
	var list []api.Span
	for time := range b.Trap.Times {
		for chamber := range b.Trap.Chambers {
			list = append(list, got[api.Span](t, b)(watch.Fish(b, time, chamber)))
		}
		for to := time; to < b.Trap.Times; to++ {
			list = append(list, got[api.Span](t, b)(watch.Came(b, time, to)))
		}
	}
	return list
}

// inside reports whether no span of a list is wider than that of another one, at either end.
func inside(list, wide []api.Span) bool {
	for i, s := range list {
		if s.Low < wide[i].Low || s.High > wide[i].High {
			return false
		}
	}
	return len(list) == len(wide)
}

// contains reports whether a list has all numbers of another one.
func contains(list, part []int) bool {
	return !slices.ContainsFunc(part, func(n int) bool { return !slices.Contains(list, n) })
}

// books returns tales of so many books, the same ones each time.
func books(seed, many int) []told {
	d := dice(seed)
	var list []told
	for range many {
		list = append(list, d.book(1+d.below(4), 1+d.below(5), api.MaxCountWords, d.below(5)))
	}
	return list
}

// goodOnes returns all stories of a book, by Good.
func goodOnes(t *testing.T, b api.WatchBook) [][]int {
	t.Helper()
	var list [][]int
	for _, guess := range guesses(b) {
		if isGood(t, b, guess) {
			list = append(list, guess)
		}
	}
	return list
}

// P11.13.
func TestEachTale(t *testing.T) {
	var found [2]int // words that hold, and false ones
	for _, x := range books(11, 300) {
		b := x.book
		if !isGood(t, b, x.guess) {
			t.Fatalf("%v: %v is not a story", b, x.guess)
		}
		var did []api.Span
		for time, l := range x.numbers {
			for _, n := range l {
				did = append(did, span(n, n))
			}
			for _, later := range x.numbers[time:] {
				n := sumOf(later) - sumOf(l)
				did = append(did, span(n, n))
			}
		}
		if wide := spansOf(t, b); !inside(did, wide) {
			t.Fatalf("%v: %v are not within %v", b, did, wide)
		}
		wrong := 0
		for n, w := range b.Trap.Words {
			fish, said := x.numbers[w.Time][w.Chamber], liesOf(t, b, n)
			if w.Low <= fish && fish <= w.High {
				found[0]++
				if said == surely {
					t.Fatalf("%v: %d surely lies, but holds in %v", b, n, x.numbers)
				}
				continue
			}
			found[1]++
			wrong++
			if said == never || !slices.Contains(x.guess, w.Time) {
				t.Fatalf("%v: %d never lies, but is false in %v, %v", b, n, x.guess, x.numbers)
			}
		}
		if fewest := falseOf(t, b); wrong < fewest {
			t.Fatalf("%v: False = %d, but %d are false in %v", b, fewest, wrong, x.numbers)
		}
	}
	if slices.Min(found[:]) < 200 {
		t.Errorf("too few words of one kind: %v", found)
	}
}

// sumOf returns the sum of a list.
func sumOf(list []int) int {
	sum := 0
	for _, n := range list {
		sum += n
	}
	return sum
}

// P11.14.
func TestAllStories(t *testing.T) {
	longer := 0
	for _, x := range books(12, 200) {
		b := x.book
		able, list, must := b, goodOnes(t, b), mustOf(t, b)
		able.Trap.Words = nil // then each guess that can be is a story
		if least := leastOf(t, b); !isGood(t, b, least) || len(list) != storiesIn(t, b) {
			t.Fatalf("%v: Least = %v, the stories are %v", b, least, list)
		}
		for _, story := range list {
			if !contains(story, must) {
				t.Fatalf("%v: Must = %v, but %v is a story", b, must, story)
			}
			for _, guess := range guesses(b) {
				part, more := contains(story, guess), len(guess) == len(story)+1 && contains(guess, story)
				if part && !isGood(t, able, guess) || more && isGood(t, able, guess) != isGood(t, b, guess) {
					t.Fatalf("%v: %v is a story, %v is not", b, story, guess)
				}
				if more && isGood(t, b, guess) {
					longer++
				}
			}
		}
	}
	if longer < 500 {
		t.Errorf("too few stories with one more time: %d", longer)
	}
}

// P11.15.
func TestSober(t *testing.T) {
	var found [2]int // with a truth, and without
	for _, x := range books(13, 400) {
		b := x.book
		_, e := counts.Truth(b.Trap)
		least, must, fewest := leastOf(t, b), mustOf(t, b), falseOf(t, b)
		if e == api.OK {
			found[0]++
			if len(least)+len(must)+fewest > 0 {
				t.Fatalf("%v: Least = %v, Must = %v, False = %d, but the trap has a truth", b, least, must, fewest)
			}
			continue
		}
		found[1]++
		if len(least) == 0 || fewest == 0 {
			t.Fatalf("%v: Least = %v, False = %d, but the trap has no truth", b, least, fewest)
		}
	}
	if slices.Min(found[:]) < 100 {
		t.Errorf("too few books of one kind: %v", found)
	}
}

// P11.16: which drink is more: how many times, how long a run, fewer times at which he was sober.
func TestMoreDrink(t *testing.T) {
	var found [3]int
	for _, x := range books(14, 250) {
		b := x.book
		var more []api.WatchBook
		if b.Drunk < api.MaxCountTimes {
			more = append(more, drinking(b, b.Drunk+1, b.Run, b.Sober...))
			found[0]++
		}
		if b.Run < api.MaxCountTimes {
			more = append(more, drinking(b, b.Drunk, b.Run+1, b.Sober...))
			found[1]++
		}
		for i := range b.Sober {
			more = append(more, drinking(b, b.Drunk, b.Run, slices.Concat(b.Sober[:i], b.Sober[i+1:])...))
			found[2]++
		}
		for _, other := range more {
			for _, story := range goodOnes(t, b) {
				if !isGood(t, other, story) {
					t.Fatalf("%v: %v is a story, but not of %v", b, story, other)
				}
			}
			if !contains(mustOf(t, b), mustOf(t, other)) || falseOf(t, other) > falseOf(t, b) || !inside(spansOf(t, b), spansOf(t, other)) {
				t.Fatalf("%v: with more drink, %v, more is known", b, other)
			}
		}
	}
	if slices.Min(found[:]) < 50 {
		t.Errorf("too few of one kind: %v", found)
	}
}

// P11.17.
func TestOneMoreWord(t *testing.T) {
	d := dice(15)
	var found [3]int // no story left, some fewer, as many
	for _, x := range books(15, 500) {
		b := x.book
		if len(b.Trap.Words) == api.MaxCountWords {
			continue
		}
		low := d.below(20)
		more := also(b, word(d.below(b.Trap.Times), d.below(b.Trap.Chambers), low, low+d.below(12)))
		before, behind := storiesIn(t, b), storiesIn(t, more)
		switch {
		case behind > before:
			t.Fatalf("%v has %d stories, %v has %d", b, before, more, behind)
		case behind == 0:
			found[0]++
			continue
		case behind < before:
			found[1]++
		default:
			found[2]++
		}
		if falseOf(t, more) < falseOf(t, b) || !inside(spansOf(t, more), spansOf(t, b)) {
			t.Fatalf("%v: with one more word, %v, less is known", b, more)
		}
	}
	if slices.Min(found[:]) < 30 {
		t.Errorf("too few words of one kind: %v", found)
	}
}

// soberAt is a book with one more time at which he was sober.
func soberAt(b api.WatchBook, time int) api.WatchBook {
	b.Sober = slices.Sorted(slices.Values(append(slices.Clone(b.Sober), time)))
	return b
}

// left returns how many stories are left behind the worse answer of whether he was drunk at a time.
func left(t *testing.T, b api.WatchBook, time int) int {
	t.Helper()
	all := storiesIn(t, b)
	if slices.Contains(b.Sober, time) {
		return all
	}
	without := storiesIn(t, soberAt(b, time))
	return max(without, all-without)
}

// P11.18.
func TestAnswer(t *testing.T) {
	asked := 0
	for _, x := range books(16, 250) {
		b := x.book
		list := goodOnes(t, b)
		for time := range b.Trap.Times {
			if slices.Contains(b.Sober, time) {
				continue
			}
			for _, guess := range guesses(b) {
				was := slices.ContainsFunc(list, func(l []int) bool { return slices.Equal(l, guess) })
				if is := isGood(t, soberAt(b, time), guess); is != (was && !slices.Contains(guess, time)) {
					t.Fatalf("%v: sober at %d, Good of %v = %t", b, time, guess, is)
				}
			}
		}
		time, e := watch.Ask(b)
		if (e == api.ErrNone) != (len(list) == 1) || e != api.OK && e != api.ErrNone {
			t.Fatalf("%v: Ask: %d, the stories are %v", b, e, list)
		}
		if e != api.OK {
			continue
		}
		asked++
		for other := range b.Trap.Times {
			if left(t, b, other) < left(t, b, time) {
				t.Fatalf("%v: Ask = %d, but %d leaves fewer", b, time, other)
			}
		}
	}
	if asked < 100 {
		t.Errorf("too few books of which to ask: %d", asked)
	}
}

// lacking is a book without the words of a set.
func lacking(b api.WatchBook, set []int) api.WatchBook {
	var words []api.CountWord
	for n, w := range b.Trap.Words {
		if !slices.Contains(set, n) {
			words = append(words, w)
		}
	}
	b.Trap.Words = words
	return b
}

// isTrue reports whether the trap of a book has a truth.
func isTrue(b api.WatchBook) bool {
	_, e := counts.Truth(b.Trap)
	return e == api.OK
}

// P11.19.
func TestBlamed(t *testing.T) {
	var found [2]int // some words are blamed; fewer would do, but their times cannot be
	d := dice(17)
	var list []api.WatchBook
	for _, x := range books(17, 1500) {
		list = append(list, x.book)
		if other := d.untrue(x.book); storiesIn(t, other) > 0 {
			list = append(list, other)
		}
	}
	for _, b := range append(list, drinking(weighed(), 2, 1), drinking(weighed(), 2, 1, 0)) {
		blamed, able := blameOf(t, b), b
		able.Trap.Words = nil
		set := 0
		for _, word := range blamed {
			set |= 1 << word
		}
		if !isTrue(lacking(b, blamed)) || !isGood(t, able, timesOf(b, set)) {
			t.Fatalf("%v: Blame = %v, but without them it has no truth, or their times cannot be", b, blamed)
		}
		if len(blamed) > 0 {
			found[0]++
		}
		for other := range 1 << len(b.Trap.Words) {
			if list := digits(other); len(list) < len(blamed) && isTrue(lacking(b, list)) {
				found[1]++
				if isGood(t, able, timesOf(b, other)) {
					t.Fatalf("%v: Blame = %v, but without %v it has a truth", b, blamed, list)
				}
			}
		}
	}
	if slices.Min(found[:]) < 20 {
		t.Errorf("too few books of one kind: %v", found)
	}
}

// P11.20.
func TestWithoutAWord(t *testing.T) {
	lying := 0
	for _, x := range books(18, 400) {
		b := x.book
		for n, w := range b.Trap.Words {
			if liesOf(t, b, n) != surely {
				continue
			}
			lying++
			rest := lacking(b, []int{n})
			if !slices.Contains(mustOf(t, b), w.Time) || falseOf(t, rest) >= falseOf(t, b) {
				t.Fatalf("%v: %d surely lies, but not so its time, or False is not less without it", b, n)
			}
			for _, story := range goodOnes(t, b) {
				if !isGood(t, rest, story) {
					t.Fatalf("%v: without %d %v is not a story", b, n, story)
				}
			}
		}
	}
	if lying < 50 {
		t.Errorf("too few words surely lie: %d", lying)
	}
}
