package anchors_test

import (
	"slices"
	"testing"

	"almadraba/anchors"
	"almadraba/api"
)

// dice is a row of numbers that are the same in each run.
type dice uint64

// below returns a number from 0 to below an end.
func (d *dice) below(end int) int {
	*d = *d*6364136223846793005 + 1442695040888963407
	return int(uint64(*d)>>33) % end
}

// span returns a span from 0 to an end, of so many numbers at most.
func (d *dice) span(end, many int) api.Span {
	low := d.below(end + 1)
	return span(low, min(end, low+d.below(many)))
}

// net returns a net of so many anchors in which some anchors hold and some do not, with few truths.
func (d *dice) net(many int) api.AnchorNet {
	n := api.AnchorNet{Wind: d.span(6+d.below(15), 4), Current: d.span(6, 3)}
	for range 1 + d.below(api.MaxAnchorBottoms) {
		n.Grips = append(n.Grips, d.span(api.MaxAnchorGrip, 3))
	}
	heavy := 1 + d.below(api.MaxAnchorWeight)
	for range many {
		n.Anchors = append(n.Anchors, anchor(min(api.MaxAnchorWeight, heavy/2+d.below(heavy+1)), d.below(len(n.Grips))))
	}
	for range max(0, many-1) {
		n.Walls = append(n.Walls, wall(d.below(10), d.below(10), d.below(5), d.below(30), d.below(40)))
	}
	return n
}

// nets returns so many nets, the same ones each time.
func nets(seed, many int) []api.AnchorNet {
	d := dice(seed)
	list := []api.AnchorNet{netN(), {}}
	for range many {
		list = append(list, d.net(d.below(api.MaxAnchors+1)))
	}
	return list
}

// grips returns all lists of grips of a net.
func grips(bottoms []api.Span) [][]int {
	lists := [][]int{nil}
	for _, s := range bottoms {
		var longer [][]int
		for _, list := range lists {
			for grip := s.Low; grip <= s.High; grip++ {
				longer = append(longer, append(slices.Clone(list), grip))
			}
		}
		lists = longer
	}
	return lists
}

// truths returns all truths of a net, with the winds of a span.
func truths(n api.AnchorNet, winds api.Span) []api.AnchorTruth {
	var list []api.AnchorTruth
	for wind := winds.Low; wind <= winds.High; wind++ {
		for current := n.Current.Low; current <= n.Current.High; current++ {
			for _, grip := range grips(n.Grips) {
				list = append(list, truth(wind, current, grip...))
			}
		}
	}
	return list
}

// more returns how many half pounds an anchor that lies could bear more, with what has dragged before.
func more(n api.AnchorNet, t api.AnchorTruth, i int, dragged []int) int {
	bears := 0
	for j, w := range n.Walls {
		other := i + 1
		if j+1 == i {
			other = j
		}
		if j != i && j+1 != i {
			continue
		}
		half := 1
		if slices.Contains(dragged, other) {
			half = 2
		}
		bears += half * (w.Sail*t.Wind + w.Drag*t.Current)
	}
	return 2*n.Anchors[i].Weight*t.Grips[n.Anchors[i].Bottom] - bears
}

// next returns all that drag next, with what has dragged before.
func next(n api.AnchorNet, t api.AnchorTruth, dragged []int) []int {
	var list []int
	for i := range n.Anchors {
		if !slices.Contains(dragged, i) && more(n, t, i, dragged) < 0 {
			list = append(list, i)
		}
	}
	return list
}

// atLast returns all that have dragged at last, with what has dragged before.
func atLast(n api.AnchorNet, t api.AnchorTruth, dragged ...int) []int {
	for {
		list := next(n, t, dragged)
		if len(list) == 0 {
			slices.Sort(dragged)
			return dragged
		}
		dragged = append(slices.Clone(dragged), list...)
	}
}

// judged returns what is known of something that is so in some of all cases.
func judged[T any](all []T, is func(T) bool) int {
	some := 0
	for _, t := range all {
		if is(t) {
			some++
		}
	}
	switch some {
	case len(all):
		return api.Surely
	case 0:
		return api.Never
	}
	return api.Perhaps
}

// P2.4 to P2.7: all truths, one by one.
func TestEachTruthIsPlayed(t *testing.T) {
	keys, along := 0, 0
	for _, n := range nets(1, 150) {
		for _, at := range truths(n, n.Wind) {
			first, e := anchors.First(n, at)
			drags, f := anchors.Drags(n, at)
			if !slices.Equal(first, next(n, at, nil)) || e != api.OK || !slices.Equal(drags, atLast(n, at)) || f != api.OK {
				t.Fatalf("%v, %v: First = %v, %d; Drags = %v, %d", n, at, first, e, drags, f)
			}
			if len(drags) > len(first) {
				along++
			}
			if len(n.Anchors) == 0 {
				continue
			}
			want, most := 0, 0
			for i := range n.Anchors {
				pulled, e := anchors.Pulled(n, at, i)
				if !slices.Equal(pulled, atLast(n, at, i)) || e != api.OK {
					t.Fatalf("%v, %v: Pulled of %d = %v, %d", n, at, i, pulled, e)
				}
				if len(pulled) > most {
					want, most = i, len(pulled)
				}
			}
			if key, e := anchors.Key(n, at); key != want || e != api.OK {
				t.Fatalf("%v, %v: Key = %d, %d, not %d", n, at, key, e, want)
			}
			if want > 0 {
				keys++
			}
		}
	}
	if keys < 50 || along < 50 {
		t.Errorf("too few truths that tell apart: %d, %d", keys, along)
	}
}

// P2.3 and P2.8 to P2.10: what is known is just what the truths bear out.
func TestKnownOfTruths(t *testing.T) {
	var found [4]int
	for _, n := range nets(2, 400) {
		all := truths(n, n.Wind)
		for i := range n.Anchors {
			want := judged(all, func(at api.AnchorTruth) bool { return slices.Contains(atLast(n, at), i) })
			if is, e := anchors.Drag(n, i); is != want || e != api.OK {
				t.Fatalf("%v: Drag of %d = %d, %d, not %d", n, i, is, e, want)
			}
			found[want]++
			ends := span(more(n, all[0], i, nil), more(n, all[0], i, nil))
			for _, at := range all {
				ends = span(min(ends.Low, more(n, at, i, nil)), max(ends.High, more(n, at, i, nil)))
			}
			if s, e := anchors.Spare(n, i); s != ends || e != api.OK {
				t.Fatalf("%v: Spare of %d = %v, %d, not %v", n, i, s, e, ends)
			}
		}
		want := judged(all, func(at api.AnchorTruth) bool { return len(atLast(n, at)) == 0 })
		if safe, e := anchors.Safe(n); safe != want || e != api.OK {
			t.Fatalf("%v: Safe = %d, %d, not %d", n, safe, e, want)
		}
		for i, w := range n.Walls {
			want := judged(all, func(at api.AnchorTruth) bool { return w.Corks >= w.Lean*at.Current && w.Corks <= w.Stones })
			if is, e := anchors.Upright(n, i); is != want || e != api.OK {
				t.Fatalf("%v: Upright of %d = %d, %d, not %d", n, i, is, e, want)
			}
		}
	}
	if slices.Min(found[1:]) < 50 {
		t.Errorf("too few nets of one kind: %v", found)
	}
}

// winds returns the least wind in which some anchor drags in some truth, and the least one in which some does in each; 21: none.
func winds(n api.AnchorNet) (wind, storm int) {
	wind, storm = api.MaxAnchorForce+1, api.MaxAnchorForce+1
	for i := api.MaxAnchorForce; i >= 0; i-- {
		is := judged(truths(n, span(i, i)), func(at api.AnchorTruth) bool { return len(next(n, at, nil)) > 0 })
		if is != api.Never {
			wind = i
		}
		if is == api.Surely {
			storm = i
		}
	}
	return wind, storm
}

// heavier returns a net with an anchor that is heavier by so much.
func heavier(n api.AnchorNet, i, by int) api.AnchorNet {
	n.Anchors = slices.Clone(n.Anchors)
	n.Anchors[i].Weight += by
	return n
}

// helps returns what Help should.
func helps(n api.AnchorNet) (int, api.Errno) {
	if wind, _ := winds(n); wind > api.MaxAnchorForce {
		return 0, api.ErrNone
	}
	help, best, err := 0, -1, api.ErrMany
	for i, a := range n.Anchors {
		if a.Weight < api.MaxAnchorWeight {
			if wind, _ := winds(heavier(n, i, 1)); wind > best {
				help, best, err = i, wind, api.OK
			}
		}
	}
	return help, err
}

// P2.11 to P2.13: all winds, with all currents and grips.
func TestWindsOfTruths(t *testing.T) {
	var helped [api.MaxAnchors]int
	for _, n := range nets(3, 200) {
		wind, storm := winds(n)
		if wind > api.MaxAnchorForce {
			wind = -1
		}
		if storm > api.MaxAnchorForce {
			storm = -1
		}
		isWind(t, 0, "Wind", anchors.Wind, n, wind)
		isWind(t, 0, "Storm", anchors.Storm, n, storm)
		want, err := helps(n)
		help, e := anchors.Help(n)
		if help != want || e != err {
			t.Fatalf("%v: Help = %d, %d, not %d, %d", n, help, e, want, err)
		}
		helped[help]++
	}
	if slices.Min(helped[:3]) < 10 {
		t.Errorf("too few nets of one kind: %v", helped)
	}
}

// safeWith returns whether no anchor drags in any of these truths, with these weights.
func safeWith(n api.AnchorNet, all []api.AnchorTruth, weights []int) bool {
	n.Anchors = slices.Clone(n.Anchors)
	for i, weight := range weights {
		n.Anchors[i].Weight = weight
	}
	return !slices.ContainsFunc(all, func(at api.AnchorTruth) bool { return len(next(n, at, nil)) > 0 })
}

// P2.14: the least of all weights with which two anchors hold.
func TestNeedOfWeights(t *testing.T) {
	d := dice(4)
	some, nothing := 0, 0
	for range 300 {
		n := d.net(2)
		all := truths(n, n.Wind)
		least, found := []int{21, 21}, false
		for a := n.Anchors[0].Weight; a <= api.MaxAnchorWeight; a++ {
			for b := n.Anchors[1].Weight; b <= api.MaxAnchorWeight; b++ {
				if safeWith(n, all, []int{a, b}) {
					least, found = []int{min(least[0], a), min(least[1], b)}, true
				}
			}
		}
		need, e := anchors.Need(n)
		if !found {
			nothing++
			if len(need) > 0 || e != api.ErrNone {
				t.Fatalf("%v: Need = %v, %d", n, need, e)
			}
			continue
		}
		want := []int{least[0] - n.Anchors[0].Weight, least[1] - n.Anchors[1].Weight}
		if !slices.Equal(need, want) || e != api.OK {
			t.Fatalf("%v: Need = %v, %d, not %v", n, need, e, want)
		}
		if want[0] != want[1] {
			some++
		}
	}
	if some < 20 || nothing < 20 {
		t.Errorf("too few nets of one kind: %d, %d", some, nothing)
	}
}
