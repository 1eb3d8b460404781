package counts_test

import (
	"slices"
	"testing"

	"almadraba/api"
	"almadraba/counts"
)

// many returns traps with a truth, of which numbers are known, and room for a word more.
func many(traps int) ([]api.CountTrap, [][][]int) {
	d := dice(11)
	var list []api.CountTrap
	var tales [][][]int
	for range traps {
		t, numbers := d.tale(1+d.below(4), 1+d.below(5), 1+d.below(20))
		t.Words = d.heard(numbers, d.below(api.MaxCountWords), 1+d.below(6))
		list, tales = append(list, t), append(tales, numbers)
	}
	return list, tales
}

// more returns a trap with a word more.
func more(t api.CountTrap, w api.CountWord) api.CountTrap {
	t.Words = append(slices.Clone(t.Words), w)
	return t
}

func fishOf(t *testing.T, trap api.CountTrap, time, chamber int) api.Span {
	t.Helper()
	s, e := counts.Fish(trap, time, chamber)
	if e != api.OK {
		t.Fatalf("%v: Fish: %d", trap, e)
	}
	return s
}

// inside reports whether no span of a list is wider than that of another one.
func inside(list, wide []api.Span) bool {
	for i, s := range list {
		if s.Low < wide[i].Low || s.High > wide[i].High {
			return false
		}
	}
	return true
}

// P1.13: what fish did is within all that is said.
func TestEachTruth(t *testing.T) {
	traps, tales := many(300)
	for i, trap := range traps {
		if is, e := counts.Holds(trap, tales[i]); !is || e != api.OK {
			t.Fatalf("%v: Holds of %v = %t, %d", trap, tales[i], is, e)
		}
		one := trap
		one.Words = nil
		var did []api.Span
		for time, l := range tales[i] {
			for chamber, fish := range l {
				did = append(did, span(fish, fish))
				for _, w := range []api.CountWord{word(time, chamber, fish, fish), word(time, chamber, fish+1, 40), word(time, chamber, 0, fish-1)} {
					n, e := counts.Judge(trap, w)
					holds := w.Low <= fish && fish <= w.High
					if w.Low <= w.High && (e != api.OK || holds && n == api.Never || !holds && n == api.Surely) {
						t.Fatalf("%v: Judge of %v = %d, %d", trap, w, n, e)
					}
				}
			}
		}
		known, e := spans(trap)
		wide, f := spans(one)
		if e != api.OK || f != api.OK || !inside(did, known[:len(did)]) || !inside(known, wide) {
			t.Fatalf("%v: %v, %d, %d of %v", trap, known, e, f, tales[i])
		}
		did = nil
		for time := range trap.Times {
			n := behindAt(time, 0)(tales[i])
			did = append(did, span(n, n))
		}
		for from := range trap.Times {
			for to := from; to < trap.Times; to++ {
				n := passedBy(0, from, to)(tales[i])
				did = append(did, span(n, n))
			}
		}
		for step := range trap.Times - 1 {
			for door := range trap.Chambers {
				n := passedBy(door, step, step+1)(tales[i])
				did = append(did, span(n, n))
			}
		}
		if !inside(did, known[len(known)-len(did):]) {
			t.Fatalf("%v: %v of %v", trap, known, tales[i])
		}
	}
}

// P1.14.
func TestBothEnds(t *testing.T) {
	traps, _ := many(120)
	for _, trap := range traps {
		for time := range trap.Times {
			for chamber := range trap.Chambers {
				s := fishOf(t, trap, time, chamber)
				for fish, want := range map[int]api.Errno{s.Low: api.OK, s.High: api.OK, s.Low - 1: api.ErrNone, s.High + 1: api.ErrNone} {
					if fish < 0 || fish > api.MaxCountFish {
						continue
					}
					if _, e := counts.Truth(more(trap, word(time, chamber, fish, fish))); e != want {
						t.Fatalf("%v: Truth with %d fish at %d, %d: %d", trap, fish, time, chamber, e)
					}
				}
			}
		}
	}
}

// P1.15.
func TestOneWordMore(t *testing.T) {
	d := dice(5)
	traps, tales := many(300)
	for i, trap := range traps {
		told := more(trap, d.heard(tales[i], 1, 3)[0])
		before, e := spans(trap)
		after, f := spans(told)
		if e != api.OK || f != api.OK || !inside(after, before) {
			t.Fatalf("%v: %v, %d; with a word: %v, %d", trap, before, e, after, f)
		}
		for range 20 {
			low := d.below(30)
			w := word(d.below(trap.Times), d.below(trap.Chambers), low, low+d.below(11))
			was, _ := counts.Judge(trap, w)
			is, e := counts.Judge(told, w)
			if e != api.OK || was != api.Perhaps && is != was {
				t.Fatalf("%v: Judge of %v = %d; with a word: %d, %d", trap, w, was, is, e)
			}
		}
	}
}

// P1.16.
func TestOneDoorMore(t *testing.T) {
	d := dice(9)
	traps, tales := many(300)
	for i, trap := range traps {
		if trap.Times == 1 {
			continue
		}
		step, door := d.below(trap.Times-1), d.below(trap.Chambers)
		if slices.Contains(trap.Open[step], door) {
			continue
		}
		if s, e := counts.Passed(trap, step, door); s != span(0, 0) || e != api.OK {
			t.Fatalf("%v: Passed of %d, %d = %v, %d", trap, step, door, s, e)
		}
		wide := trap
		wide.Open = slices.Clone(trap.Open)
		wide.Open[step] = slices.Sorted(slices.Values(append(slices.Clone(trap.Open[step]), door)))
		truth, _ := counts.Truth(trap)
		for _, numbers := range [][][]int{truth, tales[i]} {
			if is, e := counts.Holds(wide, numbers); !is || e != api.OK {
				t.Fatalf("%v: Holds of %v = %t, %d", wide, numbers, is, e)
			}
		}
		before, _ := spans(trap)
		if after, e := spans(wide); e != api.OK || !inside(before, after) {
			t.Fatalf("%v: %v; with a door: %v, %d", trap, before, after, e)
		}
	}
}

// P1.17.
func TestInTime(t *testing.T) {
	traps, _ := many(200)
	for _, trap := range traps {
		for time := 1; time < trap.Times; time++ {
			a, b := fishOf(t, trap, time-1, trap.Chambers-1), fishOf(t, trap, time, trap.Chambers-1)
			c, _ := counts.Whole(trap, time-1)
			d, e := counts.Whole(trap, time)
			if e != api.OK || b.Low < a.Low || b.High < a.High || d.Low < c.Low || d.High < c.High {
				t.Fatalf("%v: at %d: %v %v, before: %v %v", trap, time, b, d, a, c)
			}
			for to := time; to < trap.Times; to++ {
				first, _ := counts.Came(trap, 0, time)
				second, _ := counts.Came(trap, time, to)
				both, e := counts.Came(trap, 0, to)
				if e != api.OK || first.Low+second.Low > both.Low || first.High+second.High < both.High {
					t.Fatalf("%v: Came of 0 %d %d: %v %v, %v", trap, time, to, first, second, both)
				}
			}
		}
	}
}

// P1.18.
func TestMoreFish(t *testing.T) {
	traps, _ := many(200)
	for _, trap := range traps {
		before, ended := api.Span{}, false
		for fish := 1; fish <= api.MaxCountFish; fish++ {
			s, e := counts.Enough(trap, fish)
			surely := fishOf(t, trap, trap.Times-1, trap.Chambers-1).Low >= fish
			if surely != (e == api.OK) || ended && e == api.OK {
				t.Fatalf("%v: Enough of %d: %d", trap, fish, e)
			}
			if e != api.OK {
				ended = true
				continue
			}
			low, high := fishOf(t, trap, s.Low, trap.Chambers-1), fishOf(t, trap, s.High, trap.Chambers-1)
			if s.Low < before.Low || s.High < before.High || low.High < fish || high.Low < fish {
				t.Fatalf("%v: Enough of %d = %v", trap, fish, s)
			}
			before = s
		}
	}
}

// P1.19.
func TestWhatToCount(t *testing.T) {
	traps, _ := many(150)
	asked := 0
	for _, trap := range traps {
		last := fishOf(t, trap, trap.Times-1, trap.Chambers-1)
		for time := range trap.Times {
			for chamber := range trap.Chambers {
				if n, e := counts.Tell(trap, place(time, chamber)); e != api.OK || n > last.High-last.Low {
					t.Fatalf("%v: Tell of %d, %d = %d, %d", trap, time, chamber, n, e)
				}
			}
		}
		p, e := counts.Ask(trap)
		if e != api.OK {
			continue
		}
		asked++
		told, _ := counts.Tell(trap, p)
		s := fishOf(t, trap, p.Time, p.Chamber)
		greatest := 0
		for fish := s.Low; fish <= s.High; fish++ {
			l := fishOf(t, more(trap, word(p.Time, p.Chamber, fish, fish)), trap.Times-1, trap.Chambers-1)
			greatest = max(greatest, l.High-l.Low)
		}
		if greatest != told {
			t.Fatalf("%v: Tell of %v = %d, not %d", trap, p, told, greatest)
		}
	}
	if asked < 50 {
		t.Errorf("too few traps with a place to ask for: %d", asked)
	}
}

// P1.10: Tell and Judge also of a trap that has as many words as it can have.
func TestFullOfWords(t *testing.T) {
	trap := api.CountTrap{Chambers: 2, Times: 1, Words: slices.Repeat([]api.CountWord{word(0, 1, 3, 12)}, api.MaxCountWords)}
	if n, e := counts.Tell(trap, place(0, 1)); n != 0 || e != api.OK {
		t.Errorf("Tell of 0, 1 = %d, %d", n, e)
	}
	if n, e := counts.Tell(trap, place(0, 0)); n != 9 || e != api.OK {
		t.Errorf("Tell of 0, 0 = %d, %d", n, e)
	}
	if n, e := counts.Judge(trap, word(0, 0, 0, 37)); n != api.Surely || e != api.OK {
		t.Errorf("Judge = %d, %d", n, e)
	}
	if p, e := counts.Ask(trap); p != place(0, 0) || e != api.OK {
		t.Errorf("Ask = %v, %d", p, e)
	}
}

// P1.20.
func TestIdleWords(t *testing.T) {
	traps, _ := many(300)
	idle, busy := 0, 0
	for _, trap := range traps {
		list, e := counts.Idle(trap)
		if e != api.OK {
			t.Fatalf("%v: Idle: %d", trap, e)
		}
		before, _ := spans(trap)
		for i, w := range trap.Words {
			rest := without(trap, i)
			after, e := spans(rest)
			if slices.Contains(list, i) {
				idle++
				if e != api.OK || !slices.Equal(before, after) {
					t.Fatalf("%v: without the word %d: %v, %d, not %v", trap, i, after, e, before)
				}
				continue
			}
			busy++
			if s := fishOf(t, rest, w.Time, w.Chamber); w.Low <= s.Low && s.High <= w.High {
				t.Fatalf("%v: the word %d is idle", trap, i)
			}
		}
	}
	if idle < 50 || busy < 50 {
		t.Errorf("too few words: %d idle, %d busy", idle, busy)
	}
}
