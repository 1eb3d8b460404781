package watch_test

import (
	"cmp"
	"math/bits"
	"slices"
	"testing"

	"almadraba/api"
	"almadraba/counts"
	"almadraba/watch"
)

// dice is a row of numbers that are the same in each run.
type dice uint64

// below returns a number from 0 to below an end.
func (d *dice) below(end int) int {
	*d = *d*6364136223846793005 + 1442695040888963407
	return int(uint64(*d)>>33) % end
}

// doors returns some of so many doors.
func (d *dice) doors(chambers int) []int {
	var open []int
	for door := range chambers {
		if d.below(3) > 0 {
			open = append(open, door)
		}
	}
	return open
}

// trap returns a trap without words, and numbers that fish had in it.
func (d *dice) trap(chambers, times, fish int) (api.CountTrap, [][]int) {
	t := api.CountTrap{Chambers: chambers, Times: times}
	now, room := make([]int, chambers), api.MaxCountFish
	for c := range now {
		now[c] = d.below(min(fish, room) + 1)
		room -= now[c]
	}
	numbers := [][]int{slices.Clone(now)}
	for range times - 1 {
		open := d.doors(chambers)
		for _, door := range open {
			if door == 0 {
				come := d.below(min(fish, room) + 1)
				room -= come
				now[0] += come
			} else {
				pass := d.below(now[door-1] + 1)
				now[door-1] -= pass
				now[door] += pass
			}
		}
		t.Open = append(t.Open, open)
		numbers = append(numbers, slices.Clone(now))
	}
	return t, numbers
}

// told is a tale of a book.
type told struct {
	book    api.WatchBook
	guess   []int
	numbers [][]int
}

// book returns a tale of a book: at most so many words, each as wide as so much, of which those of the guess are often false.
func (d *dice) book(chambers, times, words, wide int) told {
	trap, numbers := d.trap(chambers, times, 1+d.below(12))
	b := api.WatchBook{Trap: trap, Drunk: max(d.below(times+1), d.below(times+1)), Run: max(d.below(times+1), d.below(times+1))}
	var able [][]int
	for _, guess := range guesses(b) {
		if can(b, guess) {
			able = append(able, guess)
		}
	}
	guess := able[max(d.below(len(able)), d.below(len(able)), d.below(len(able)))]
	for range max(d.below(words+1), d.below(words+1)) {
		time, chamber := d.below(times), d.below(chambers)
		n := numbers[time][chamber]
		if slices.Contains(guess, time) && d.below(6) > 0 {
			n = d.below(20)
		}
		b.Trap.Words = append(b.Trap.Words, word(time, chamber, max(0, n-d.below(wide+1)), min(api.MaxCountFish, n+d.below(wide+1))))
	}
	for time := range times {
		if !slices.Contains(guess, time) && d.below(6) == 0 {
			b.Sober = append(b.Sober, time)
		}
	}
	return told{b, guess, numbers}
}

// guesses returns all strictly ascending lists of times of the trap of a book.
func guesses(b api.WatchBook) [][]int {
	var list [][]int
	for set := range 1 << b.Trap.Times {
		list = append(list, digits(set))
	}
	return list
}

// digits returns the binary digits of a number that are 1, ascending.
func digits(set int) []int {
	var list []int
	for ; set > 0; set &= set - 1 {
		list = append(list, bits.TrailingZeros(uint(set)))
	}
	return list
}

// can reports whether a guess can be.
func can(b api.WatchBook, guess []int) bool {
	at := func(time int) bool { return slices.Contains(guess, time) }
	for from := 0; from+b.Run < b.Trap.Times; from++ {
		run := 0
		for time := from; time <= from+b.Run && at(time); time++ {
			run++
		}
		if run > b.Run {
			return false
		}
	}
	return len(guess) <= b.Drunk && !slices.ContainsFunc(b.Sober, at)
}

// timesOf returns the times of the words of a set.
func timesOf(b api.WatchBook, set int) []int {
	var list []int
	for time := range b.Trap.Times {
		if slices.ContainsFunc(digits(set), func(word int) bool { return b.Trap.Words[word].Time == time }) {
			list = append(list, time)
		}
	}
	return list
}

// bounds is between what all numbers of fish are, and how many came in from each time to each other one.
type bounds struct {
	fish [api.MaxCountTimes][api.MaxCountChambers]api.Span
	came [api.MaxCountTimes][api.MaxCountTimes]api.Span
}

// tales is the bounds of all tales with the same false words, by the set of them.
type tales map[int]bounds

// hull returns what is in one of two spans, or between them.
func hull(a, b api.Span) api.Span { return span(min(a.Low, b.Low), max(a.High, b.High)) }

// hulls returns the hulls of all spans of two bounds.
func hulls(a, b bounds) bounds {
	for i := range a.fish {
		for j := range a.fish[i] {
			a.fish[i][j] = hull(a.fish[i][j], b.fish[i][j])
		}
		for j := range a.came[i] {
			a.came[i][j] = hull(a.came[i][j], b.came[i][j])
		}
	}
	return a
}

// add adds the bounds of some tales with the same false words.
func (all tales) add(set int, more bounds) {
	if old, is := all[set]; is {
		more = hulls(old, more)
	}
	all[set] = more
}

// teller looks for all tales of a book, fish by fish, from the first time on, and from the last chamber of each.
type teller struct {
	api.WatchBook
	numbers [api.MaxCountTimes][api.MaxCountChambers]int
	steps   int
	able    map[int]bool // whether the times of sets of words can be a guess
	all     tales
}

// fill tries all numbers for a chamber at a time, and all that comes behind it; so many fish are behind the chamber, and were there before.
func (w *teller) fill(time, chamber, behind, before, set int) {
	if chamber < 0 {
		time, chamber, behind, before = time+1, w.Trap.Chambers-1, 0, 0
	}
	if time == w.Trap.Times {
		w.all.add(set, w.just())
		return
	}
	if time > 0 {
		before += w.numbers[time-1][chamber]
	}
	for fish := 0; behind+fish <= api.MaxCountFish && w.steps > 0; fish++ {
		w.steps--
		w.numbers[time][chamber] = fish
		pass := behind + fish - before
		next := set | w.wrong(time, chamber, fish)
		if (time == 0 || pass == 0 || pass > 0 && slices.Contains(w.Trap.Open[time-1], chamber)) && w.isAble(next) {
			w.fill(time, chamber-1, behind+fish, before, next)
		}
	}
}

// isAble reports whether the times of a set of words can be a guess.
func (w *teller) isAble(set int) bool {
	is, known := w.able[set]
	if !known {
		is = can(w.WatchBook, timesOf(w.WatchBook, set))
		w.able[set] = is
	}
	return is
}

// wrong returns the words that are false if there are so many fish.
func (w *teller) wrong(time, chamber, fish int) int {
	set := 0
	for n, x := range w.Trap.Words {
		if x.Time == time && x.Chamber == chamber && (fish < x.Low || fish > x.High) {
			set |= 1 << n
		}
	}
	return set
}

// whole returns how many fish are in the trap.
func (w *teller) whole(time int) int {
	sum := 0
	for _, fish := range w.numbers[time][:w.Trap.Chambers] {
		sum += fish
	}
	return sum
}

// just returns the bounds of the one tale that is looked at.
func (w *teller) just() bounds {
	var b bounds
	for time := range w.Trap.Times {
		for chamber := range w.Trap.Chambers {
			b.fish[time][chamber] = span(w.numbers[time][chamber], w.numbers[time][chamber])
		}
		for to := time; to < w.Trap.Times; to++ {
			n := w.whole(to) - w.whole(time)
			b.came[time][to] = span(n, n)
		}
	}
	return b
}

// fishByFish returns all tales of a book, and false if there are too many to look at.
func fishByFish(b api.WatchBook) (tales, bool) {
	w := teller{WatchBook: b, steps: 150000, able: map[int]bool{}, all: tales{}}
	w.fill(0, b.Trap.Chambers-1, 0, 0, 0)
	return w.all, w.steps > 0
}

// wordByWord adds all tales of a book to some, by what counts says of its trap if the first words hold or are false as it is said.
func wordByWord(b api.WatchBook, all tales, said []api.CountWord, set int) {
	trap, next := b.Trap, len(said)
	trap.Words = said
	if _, e := counts.Truth(trap); e != api.OK || !can(b, timesOf(b, set)) {
		return
	}
	if next == len(b.Trap.Words) {
		all.add(set, counted(trap))
		return
	}
	x := b.Trap.Words[next]
	wordByWord(b, all, append(said[:next:next], x), set)
	if x.Low > 0 {
		wordByWord(b, all, append(said[:next:next], word(x.Time, x.Chamber, 0, x.Low-1)), set|1<<next)
	}
	if x.High < api.MaxCountFish {
		wordByWord(b, all, append(said[:next:next], word(x.Time, x.Chamber, x.High+1, api.MaxCountFish)), set|1<<next)
	}
}

// counted returns the bounds of a trap.
func counted(t api.CountTrap) bounds {
	var b bounds
	for time := range t.Times {
		for chamber := range t.Chambers {
			b.fish[time][chamber], _ = counts.Fish(t, time, chamber)
		}
		for to := time; to < t.Times; to++ {
			b.came[time][to], _ = counts.Came(t, time, to)
		}
	}
	return b
}

// inOrder compares two lists by how many numbers they have, and then number by number.
func inOrder(a, b []int) int {
	return cmp.Or(cmp.Compare(len(a), len(b)), slices.Compare(a, b))
}

// storiesOf returns the stories of all tales of a book, in order.
func storiesOf(b api.WatchBook, all tales) [][]int {
	var list [][]int
	for _, guess := range guesses(b) {
		told := false
		for set := range all {
			told = told || !slices.ContainsFunc(timesOf(b, set), func(time int) bool { return !slices.Contains(guess, time) })
		}
		if told && can(b, guess) {
			list = append(list, guess)
		}
	}
	slices.SortFunc(list, inOrder)
	return list
}

// blamed returns the first of the shortest lists of false words.
func blamed(all tales) []int {
	var best []int
	first := true
	for set := range all {
		if list := digits(set); first || inOrder(list, best) < 0 {
			best, first = list, false
		}
	}
	return best
}

// known returns what is known of something that so many of all are.
func known(those, all int) int {
	switch those {
	case 0:
		return never
	case all:
		return surely
	}
	return perhaps
}

// with returns how many of some lists have a number.
func with(list [][]int, number int) int {
	many := 0
	for _, l := range list {
		if slices.Contains(l, number) {
			many++
		}
	}
	return many
}

// found is of which kinds the books were.
type found struct {
	stories, blamed [4]int // none, one, two, or more
	lies, drunk     [4]int // surely, never, perhaps
	asked, apart    int    // Ask is not the time 0; the times of Blame are not the first story
}

// isEnough reports whether there were so many of each kind.
func (f *found) isEnough(many int) bool {
	return min(slices.Min(f.stories[:]), slices.Min(f.blamed[:]), slices.Min(f.lies[1:]), slices.Min(f.drunk[1:]), f.asked, f.apart) >= many
}

// compare checks all functions of a book by all its tales.
func compare(t *testing.T, b api.WatchBook, all tales, f *found) {
	t.Helper()
	list := storiesOf(b, all)
	stories(t, b, list...)
	f.stories[min(3, len(list))]++
	if len(list) == 0 {
		errors(t, b, fitting(), both(untold(b), lied(b)))
		return
	}
	least(t, b, list[0]...)
	compareTimes(t, b, list, f)
	said := blamed(all)
	blame(t, b, said...)
	f.blamed[min(3, len(said))]++
	set := 0
	for _, word := range said {
		set |= 1 << word
	}
	if !slices.Equal(timesOf(b, set), list[0]) {
		f.apart++
	}
	compareTales(t, b, all, f)
}

// lied has ErrArg for Lies if a book has no words.
func lied(b api.WatchBook) map[string]api.Errno {
	if len(b.Trap.Words) == 0 {
		return of(api.ErrArg, "Lies")
	}
	return nil
}

// compareTimes checks the functions that say at which times he was drunk, by the list of all stories.
func compareTimes(t *testing.T, b api.WatchBook, list [][]int, f *found) {
	t.Helper()
	var knows, surelyAt []int
	best, fewest := none, len(list)
	for time := range b.Trap.Times {
		many := with(list, time)
		knows = append(knows, known(many, len(list)))
		f.drunk[knows[time]]++
		if knows[time] == surely {
			surelyAt = append(surelyAt, time)
		}
		if left := max(many, len(list)-many); left < fewest {
			best, fewest = time, left
		}
	}
	drunk(t, b, knows...)
	must(t, b, surelyAt...)
	ask(t, b, best)
	if best > 0 {
		f.asked++
	}
}

// compareTales checks the functions that say what words and fish can be, by all tales.
func compareTales(t *testing.T, b api.WatchBook, all tales, f *found) {
	t.Helper()
	var sets [][]int
	var wide bounds
	for set, more := range all {
		if len(sets) > 0 {
			more = hulls(more, wide)
		}
		sets, wide = append(sets, digits(set)), more
	}
	var said []int
	for word := range b.Trap.Words {
		said = append(said, known(with(sets, word), len(sets)))
		f.lies[said[word]]++
	}
	lies(t, b, said...)
	for time := range b.Trap.Times {
		for chamber := range b.Trap.Chambers {
			fish(t, b, time, chamber, wide.fish[time][chamber])
		}
		for to := time; to < b.Trap.Times; to++ {
			came(t, b, time, to, wide.came[time][to])
		}
	}
}

// untrue returns a book that is often without a story: its limits are less, or more of its times are sober.
func (d *dice) untrue(b api.WatchBook) api.WatchBook {
	switch d.below(3) {
	case 0:
		b.Drunk = max(0, b.Drunk-1)
	case 1:
		b.Run = max(0, b.Run-1)
	default:
		b.Sober = slices.Compact(slices.Sorted(slices.Values(append(slices.Clone(b.Sober), d.below(b.Trap.Times)))))
	}
	return b
}

// P11.2 to P11.12: all truths of small traps, fish by fish.
func TestFishByFish(t *testing.T) {
	d := dice(1)
	var f found
	for books := 0; books < 700; {
		b := d.book(1+d.below(2), 1+d.below(5), api.MaxCountWords, d.below(4)).book
		if d.below(3) == 0 {
			b = d.untrue(b)
		}
		if all, is := fishByFish(b); is {
			compare(t, b, all, &f)
			books++
		}
		if t.Failed() {
			return
		}
	}
	if !f.isEnough(20) {
		t.Errorf("too few books of one kind: %v", f)
	}
}

// P11.2 to P11.12: all traps, by what counts says of them for each way in which words can be false.
func TestWordByWord(t *testing.T) {
	d := dice(2)
	var f found
	for range 500 {
		b := d.book(1+d.below(4), 1+d.below(5), 6, d.below(4)).book
		if d.below(3) == 0 {
			b = d.untrue(b)
		}
		all := tales{}
		wordByWord(b, all, nil, 0)
		compare(t, b, all, &f)
		if t.Failed() {
			return
		}
	}
	if !f.isEnough(20) {
		t.Errorf("too few books of one kind: %v", f)
	}
}

// The two ways to find all tales are the same for books for which both can be gone.
func TestBothWays(t *testing.T) {
	d := dice(3)
	for books := 0; books < 40; {
		b := d.book(1+d.below(3), 1+d.below(4), 5, 2).book
		want, is := fishByFish(b)
		if !is {
			continue
		}
		got := tales{}
		wordByWord(b, got, nil, 0)
		for set, bounds := range want {
			if got[set] != bounds || len(got) != len(want) {
				t.Fatalf("%v: %v, not %v", b, got, want)
			}
		}
		books++
	}
}

// A tale of each book is one: its guess is a story.
func TestTold(t *testing.T) {
	d := dice(4)
	for range 300 {
		x := d.book(1+d.below(4), 1+d.below(5), 8, 3)
		if is, e := watch.Good(x.book, x.guess); !is || e != api.OK {
			t.Errorf("%v: Good of %v = %t, %d", x.book, x.guess, is, e)
		}
	}
}
