package counts_test

import (
	"reflect"
	"slices"
	"sync"
	"testing"

	"almadraba/api"
	"almadraba/counts"
)

// dice is a row of numbers that are the same in each run.
type dice uint64

// below returns a number from 0 to below an end.
func (d *dice) below(end int) int {
	*d = *d*6364136223846793005 + 1442695040888963407
	return int(uint64(*d)>>33) % end
}

// doors returns some of so many doors.
func (d *dice) doors(chambers int) []int {
	var open []int
	for door := range chambers {
		if d.below(3) > 0 {
			open = append(open, door)
		}
	}
	return open
}

// tale returns a trap without words, and numbers that fish had in it.
func (d *dice) tale(chambers, times, fish int) (api.CountTrap, [][]int) {
	t := api.CountTrap{Chambers: chambers, Times: times}
	now, room := make([]int, chambers), api.MaxCountFish
	for c := range now {
		now[c] = d.below(min(fish, room) + 1)
		room -= now[c]
	}
	numbers := [][]int{slices.Clone(now)}
	for range times - 1 {
		open := d.doors(chambers)
		for _, door := range open {
			if door == 0 {
				come := d.below(min(fish, room) + 1)
				room -= come
				now[0] += come
			} else {
				pass := d.below(now[door-1] + 1)
				now[door-1] -= pass
				now[door] += pass
			}
		}
		t.Open = append(t.Open, open)
		numbers = append(numbers, slices.Clone(now))
	}
	return t, numbers
}

// heard returns so many words that hold in numbers, each with a span of at most so many numbers more.
func (d *dice) heard(numbers [][]int, words, wide int) []api.CountWord {
	var list []api.CountWord
	for range words {
		time := d.below(len(numbers))
		chamber := d.below(len(numbers[0]))
		if d.below(2) == 0 {
			time = len(numbers) - 1
		}
		n := numbers[time][chamber]
		list = append(list, word(time, chamber, max(0, n-d.below(wide+1)), min(api.MaxCountFish, n+d.below(wide+1))))
	}
	return list
}

// trap returns a trap that mostly has a truth.
func (d *dice) trap(words int) api.CountTrap {
	t, numbers := d.tale(1+d.below(4), 1+d.below(5), 1+d.below(20))
	t.Words = d.heard(numbers, d.below(words+1), 1+d.below(4))
	if d.below(8) == 0 && len(t.Words) < words {
		low := d.below(5)
		t.Words = append(t.Words, word(d.below(t.Times), d.below(t.Chambers), low, low+d.below(5)))
	}
	return t
}

// search looks for all truths, from the last time back, by the numbers of fish in each chamber and those behind it.
type search struct {
	trap   api.CountTrap
	most   int
	steps  int
	behind [][]int
	found  [][][]int
}

// truths returns all truths of a trap, and false if there are more than so many, or if they take too long to find.
func truths(t api.CountTrap, most int) ([][][]int, bool) {
	s := &search{trap: t, most: most, behind: make([][]int, t.Times)}
	for time := range s.behind {
		s.behind[time] = make([]int, t.Chambers+1)
	}
	s.fill(t.Times-1, t.Chambers-1)
	return s.found, !s.over()
}

func (s *search) over() bool { return len(s.found) > s.most || s.steps > 50*s.most }

// fill tries all numbers for a chamber at a time, and all that is before it.
func (s *search) fill(time, chamber int) {
	if time < 0 {
		s.found = append(s.found, s.numbers())
		return
	}
	if chamber < 0 {
		s.fill(time-1, s.trap.Chambers-1)
		return
	}
	for fish := 0; fish+s.behind[time][chamber+1] <= api.MaxCountFish && !s.over(); fish++ {
		s.steps++
		s.behind[time][chamber] = fish + s.behind[time][chamber+1]
		if s.heard(time, chamber, fish) && s.passed(time, chamber) {
			s.fill(time, chamber-1)
		}
	}
}

func (s *search) heard(time, chamber, fish int) bool {
	for _, w := range s.trap.Words {
		if w.Time == time && w.Chamber == chamber && (fish < w.Low || fish > w.High) {
			return false
		}
	}
	return true
}

func (s *search) passed(time, chamber int) bool {
	if time == s.trap.Times-1 {
		return true
	}
	pass := s.behind[time+1][chamber] - s.behind[time][chamber]
	return pass == 0 || pass > 0 && slices.Contains(s.trap.Open[time], chamber)
}

func (s *search) numbers() [][]int {
	list := make([][]int, s.trap.Times)
	for time, l := range s.behind {
		for chamber := range s.trap.Chambers {
			list[time] = append(list[time], l[chamber]-l[chamber+1])
		}
	}
	return list
}

// ends returns the least and the greatest number that something is in truths.
func ends(all [][][]int, of func(numbers [][]int) int) api.Span {
	s := span(of(all[0]), of(all[0]))
	for _, numbers := range all {
		s.Low, s.High = min(s.Low, of(numbers)), max(s.High, of(numbers))
	}
	return s
}

func fishAt(time, chamber int) func([][]int) int {
	return func(numbers [][]int) int { return numbers[time][chamber] }
}

// behindAt returns how many fish there are in a chamber and all behind it.
func behindAt(time, chamber int) func([][]int) int {
	return func(numbers [][]int) int {
		sum := 0
		for _, fish := range numbers[time][chamber:] {
			sum += fish
		}
		return sum
	}
}

// passedBy returns how many fish pass a door from a time to another one.
func passedBy(door, from, to int) func([][]int) int {
	return func(numbers [][]int) int { return behindAt(to, door)(numbers) - behindAt(from, door)(numbers) }
}

// judged returns what Judge should say.
func judged(all [][][]int, w api.CountWord) int {
	held := 0
	for _, numbers := range all {
		if fish := numbers[w.Time][w.Chamber]; w.Low <= fish && fish <= w.High {
			held++
		}
	}
	switch held {
	case 0:
		return api.Never
	case len(all):
		return api.Surely
	}
	return api.Perhaps
}

// firstWith returns the first time with so many fish in the last chamber, or the number of times if there is none.
func firstWith(fish int) func([][]int) int {
	return func(numbers [][]int) int {
		for time, l := range numbers {
			if l[len(l)-1] >= fish {
				return time
			}
		}
		return len(numbers)
	}
}

// doubts returns the greatest doubt behind a count of a place.
func doubts(t api.CountTrap, all [][][]int, p api.CountPlace) int {
	last := map[int]api.Span{}
	for _, numbers := range all {
		fish, end := numbers[p.Time][p.Chamber], numbers[t.Times-1][t.Chambers-1]
		s, is := last[fish]
		if !is {
			s = span(end, end)
		}
		last[fish] = span(min(s.Low, end), max(s.High, end))
	}
	greatest := 0
	for _, s := range last {
		greatest = max(greatest, s.High-s.Low)
	}
	return greatest
}

// findKnown returns some traps, each with all its truths, one at least.
func findKnown() (traps []api.CountTrap, all [][][][]int) {
	add := func(trap api.CountTrap) {
		if list, is := truths(trap, 2500); is && len(list) > 0 {
			traps, all = append(traps, trap), append(all, list)
		}
	}
	add(trapT())
	add(api.CountTrap{Chambers: 1, Times: 1})
	add(api.CountTrap{Chambers: 2, Times: 1})
	add(api.CountTrap{Chambers: 1, Times: 2, Open: [][]int{{0}}})
	add(api.CountTrap{Chambers: 3, Times: 2, Open: [][]int{{0, 2}}, Words: []api.CountWord{word(1, 0, 20, 40), word(1, 1, 0, 4), word(1, 2, 15, 20)}})
	d := dice(1)
	for len(traps) < 250 {
		add(d.trap(api.MaxCountWords))
	}
	return traps, all
}

// known returns the same traps and truths each time: to find them takes long.
var known = sync.OnceValues(findKnown)

// P1.4 to P1.7, and P1.13: what is known is just what the truths bear out.
func TestSpansOfTruths(t *testing.T) {
	traps, all := known()
	for i, trap := range traps {
		var want []api.Span
		add := func(of func([][]int) int) { want = append(want, ends(all[i], of)) }
		for time := range trap.Times {
			for chamber := range trap.Chambers {
				add(fishAt(time, chamber))
			}
		}
		for time := range trap.Times {
			add(behindAt(time, 0))
		}
		for from := range trap.Times {
			for to := from; to < trap.Times; to++ {
				add(passedBy(0, from, to))
			}
		}
		for step := range trap.Times - 1 {
			for door := range trap.Chambers {
				add(passedBy(door, step, step+1))
			}
		}
		if got, e := spans(trap); e != api.OK || !slices.Equal(got, want) {
			t.Fatalf("%v: %v, %d, not %v", trap, got, e, want)
		}
	}
}

// P1.2 and P1.3: Holds of each truth, and of numbers that are nearly one; Truth is one.
func TestHoldsOfTruths(t *testing.T) {
	traps, all := known()
	for i, trap := range traps {
		truth, e := counts.Truth(trap)
		if e != api.OK || !slices.ContainsFunc(all[i], func(l [][]int) bool { return reflect.DeepEqual(l, truth) }) {
			t.Fatalf("%v: Truth = %v, %d", trap, truth, e)
		}
		for k := 0; k < len(all[i]); k += 1 + len(all[i])/20 {
			numbers := all[i][k]
			if is, e := counts.Holds(trap, numbers); !is || e != api.OK {
				t.Fatalf("%v: Holds of %v = %t, %d", trap, numbers, is, e)
			}
			nearly(t, trap, all[i], numbers)
		}
	}
}

// nearly checks Holds of all that differ from numbers by one fish at one place.
func nearly(t *testing.T, trap api.CountTrap, all [][][]int, numbers [][]int) {
	t.Helper()
	for time := range trap.Times {
		for chamber := range trap.Chambers {
			for _, by := range []int{-1, 1} {
				other := make([][]int, len(numbers))
				for i, l := range numbers {
					other[i] = slices.Clone(l)
				}
				other[time][chamber] += by
				want := slices.ContainsFunc(all, func(l [][]int) bool { return reflect.DeepEqual(l, other) })
				if is, e := counts.Holds(trap, other); is != want || e != api.OK {
					t.Fatalf("%v: Holds of %v = %t, %d", trap, other, is, e)
				}
			}
		}
	}
}

// P1.3: a trap without a truth, however it comes to have none.
func TestTruthIfAny(t *testing.T) {
	d := dice(7)
	none := 0
	for none < 60 {
		trap, numbers := d.tale(1+d.below(3), 1+d.below(4), 6)
		trap.Words = d.heard(numbers, 3, 1)
		for range 3 {
			low := d.below(9)
			trap.Words = append(trap.Words, word(d.below(trap.Times), d.below(trap.Chambers), low, low+d.below(3)))
		}
		all, is := truths(trap, 2500)
		if !is {
			continue
		}
		_, e := counts.Truth(trap)
		if (e == api.OK) != (len(all) > 0) || e != api.OK && e != api.ErrNone {
			t.Fatalf("%v: Truth: %d, but there are %d", trap, e, len(all))
		}
		if len(all) == 0 {
			none++
		}
	}
}

// P1.8 and P1.9.
func TestJudgeOfTruths(t *testing.T) {
	d := dice(3)
	traps, all := known()
	for i, trap := range traps {
		for range 15 {
			w := word(d.below(trap.Times), d.below(trap.Chambers), 0, 0)
			s := ends(all[i], fishAt(w.Time, w.Chamber))
			w.Low = min(api.MaxCountFish, max(0, s.Low-3+d.below(s.High-s.Low+7)))
			w.High = min(api.MaxCountFish, max(w.Low, s.High-3+d.below(7)))
			if n, e := counts.Judge(trap, w); n != judged(all[i], w) || e != api.OK {
				t.Fatalf("%v: Judge of %v = %d, %d", trap, w, n, e)
			}
		}
		for fish := 1; fish <= api.MaxCountFish; fish++ {
			want, err := ends(all[i], firstWith(fish)), api.OK
			if want.High == trap.Times {
				want, err = api.Span{}, api.ErrNone
			}
			if s, e := counts.Enough(trap, fish); s != want || e != err {
				t.Fatalf("%v: Enough of %d = %v, %d, not %v", trap, fish, s, e, want)
			}
		}
	}
}

// P1.10 and P1.11.
func TestAskOfTruths(t *testing.T) {
	traps, all := known()
	for i, trap := range traps {
		last := place(trap.Times-1, trap.Chambers-1)
		doubt := ends(all[i], fishAt(last.Time, last.Chamber))
		best, least, found := api.CountPlace{}, 0, false
		for time := range trap.Times {
			for chamber := range trap.Chambers {
				p := place(time, chamber)
				want := doubts(trap, all[i], p)
				if n, e := counts.Tell(trap, p); n != want || e != api.OK {
					t.Fatalf("%v: Tell of %v = %d, %d, not %d", trap, p, n, e, want)
				}
				if p != last && (!found || want < least) {
					best, least, found = p, want, true
				}
			}
		}
		err := api.OK
		if !found || doubt.Low == doubt.High {
			best, err = api.CountPlace{}, api.ErrNone
		}
		if p, e := counts.Ask(trap); p != best || e != err {
			t.Fatalf("%v: Ask = %v, %d, not %v", trap, p, e, best)
		}
	}
}

// P1.12.
func TestIdleOfTruths(t *testing.T) {
	traps, _ := known()
	some := 0
	for _, trap := range traps {
		var want []int
		all := true
		for i, w := range trap.Words {
			list, is := truths(without(trap, i), 2500)
			all = all && is
			if is && judged(list, w) == api.Surely {
				want = append(want, i)
			}
		}
		if !all {
			continue
		}
		if l, e := counts.Idle(trap); !slices.Equal(l, want) || e != api.OK {
			t.Fatalf("%v: Idle = %v, %d, not %v", trap, l, e, want)
		}
		if len(want) > 0 {
			some++
		}
	}
	if some < 20 {
		t.Errorf("too few traps with idle words: %d", some)
	}
}

// without returns a trap without a word.
func without(t api.CountTrap, i int) api.CountTrap {
	t.Words = slices.Concat(t.Words[:i], t.Words[i+1:])
	return t
}
