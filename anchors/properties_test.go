package anchors_test

import (
	"slices"
	"testing"

	"almadraba/anchors"
	"almadraba/api"
)

// truth returns a truth of a net.
func (d *dice) truth(n api.AnchorNet) api.AnchorTruth {
	in := func(s api.Span) int { return s.Low + d.below(s.High-s.Low+1) }
	t := truth(in(n.Wind), in(n.Current))
	for _, s := range n.Grips {
		t.Grips = append(t.Grips, in(s))
	}
	return t
}

// wide returns a net of so many anchors with many truths.
func (d *dice) wide(many int) api.AnchorNet {
	n := d.net(many)
	n.Wind, n.Current = d.span(api.MaxAnchorForce, 21), d.span(api.MaxAnchorForce, 21)
	for i := range n.Grips {
		n.Grips[i] = d.span(api.MaxAnchorGrip, 10)
	}
	return n
}

// wideNets returns so many nets with anchors, the same ones each time.
func wideNets(seed, many int) []api.AnchorNet {
	d := dice(seed)
	list := []api.AnchorNet{netN()}
	for range many {
		list = append(list, d.wide(1+d.below(api.MaxAnchors)))
	}
	return list
}

// list returns a list that must be returned.
func list(t *testing.T, n api.AnchorNet, of func(api.AnchorNet, api.AnchorTruth) ([]int, api.Errno), at api.AnchorTruth) []int {
	t.Helper()
	l, e := of(n, at)
	if e != api.OK || !slices.IsSorted(l) {
		t.Fatalf("%v, %v: %v, %d", n, at, l, e)
	}
	return l
}

// isIn reports whether all of a list are in another one.
func isIn(list, all []int) bool {
	return !slices.ContainsFunc(list, func(i int) bool { return !slices.Contains(all, i) })
}

// windOf returns a wind, or one above all winds for ErrNone.
func windOf(t *testing.T, n api.AnchorNet, of func(api.AnchorNet) (int, api.Errno)) int {
	t.Helper()
	wind, e := of(n)
	if e == api.ErrNone {
		return api.MaxAnchorForce + 1
	}
	if e != api.OK {
		t.Fatalf("%v: %d", n, e)
	}
	return wind
}

// P2.15.
func TestEachTruth(t *testing.T) {
	d := dice(5)
	for _, n := range wideNets(5, 400) {
		for range 20 {
			at := d.truth(n)
			first, drags := list(t, n, anchors.First, at), list(t, n, anchors.Drags, at)
			if !isIn(first, drags) {
				t.Fatalf("%v, %v: First = %v, Drags = %v", n, at, first, drags)
			}
			for i := range n.Anchors {
				is, e := anchors.Drag(n, i)
				has := slices.Contains(drags, i)
				if e != api.OK || is == api.Surely && !has || is == api.Never && has {
					t.Fatalf("%v, %v: Drag of %d = %d, %d; Drags = %v", n, at, i, is, e, drags)
				}
				s, e := anchors.Spare(n, i)
				could := more(n, at, i, nil)
				if e != api.OK || could < s.Low || could > s.High || slices.Contains(first, i) != (could < 0) {
					t.Fatalf("%v, %v: Spare of %d = %v, %d; First = %v", n, at, i, s, e, first)
				}
			}
		}
	}
}

// P2.16: with less wind, less current, or a greater grip.
func TestCalmer(t *testing.T) {
	d := dice(6)
	less := 0
	for _, n := range wideNets(6, 400) {
		n.Wind = span(0, api.MaxAnchorForce)
		for range 20 {
			at := d.truth(n)
			calm := at
			calm.Grips = slices.Clone(at.Grips)
			switch bottom := d.below(len(n.Grips)); d.below(3) {
			case 0:
				calm.Wind = d.below(at.Wind + 1)
			case 1:
				calm.Current -= d.below(at.Current - n.Current.Low + 1)
			default:
				calm.Grips[bottom] += d.below(n.Grips[bottom].High - at.Grips[bottom] + 1)
			}
			drags, calmer := list(t, n, anchors.Drags, at), list(t, n, anchors.Drags, calm)
			if !isIn(calmer, drags) {
				t.Fatalf("%v: Drags of %v = %v, of %v = %v", n, at, drags, calm, calmer)
			}
			if len(calmer) < len(drags) {
				less++
			}
			if at.Wind < windOf(t, n, anchors.Wind) && len(drags) > 0 || at.Wind >= windOf(t, n, anchors.Storm) && len(drags) == 0 {
				t.Fatalf("%v: Drags of %v = %v", n, at, drags)
			}
		}
	}
	if less < 100 {
		t.Errorf("too few truths that are calmer: %d", less)
	}
}

// P2.17.
func TestHeavier(t *testing.T) {
	d := dice(7)
	for _, n := range wideNets(7, 400) {
		i := d.below(len(n.Anchors))
		heavy := heavier(n, i, d.below(api.MaxAnchorWeight-n.Anchors[i].Weight+1))
		if windOf(t, heavy, anchors.Wind) < windOf(t, n, anchors.Wind) || windOf(t, heavy, anchors.Storm) < windOf(t, n, anchors.Storm) {
			t.Fatalf("%v, %v: Wind or Storm is less", n, heavy)
		}
		for j := range n.Anchors {
			was, e := anchors.Drag(n, j)
			is, f := anchors.Drag(heavy, j)
			if e != api.OK || f != api.OK || is == api.Surely && was != api.Surely {
				t.Fatalf("%v, %v: Drag of %d = %d, %d", n, heavy, j, was, is)
			}
		}
		for range 20 {
			at := d.truth(n)
			if drags, fewer := list(t, n, anchors.Drags, at), list(t, heavy, anchors.Drags, at); !isIn(fewer, drags) {
				t.Fatalf("%v, %v: Drags of %v = %v, %v", n, heavy, at, drags, fewer)
			}
		}
	}
}

// P2.18.
func TestPulled(t *testing.T) {
	d := dice(8)
	for _, n := range wideNets(8, 400) {
		for range 10 {
			at := d.truth(n)
			drags := list(t, n, anchors.Drags, at)
			for i := range n.Anchors {
				pulled, e := anchors.Pulled(n, at, i)
				if e != api.OK || !slices.Contains(pulled, i) || !isIn(drags, pulled) || slices.Contains(drags, i) && !slices.Equal(pulled, drags) {
					t.Fatalf("%v, %v: Pulled of %d = %v, %d; Drags = %v", n, at, i, pulled, e, drags)
				}
			}
		}
	}
}

// backwards returns a net with anchors and walls in the opposite order.
func backwards(n api.AnchorNet) api.AnchorNet {
	n.Anchors, n.Walls = slices.Clone(n.Anchors), slices.Clone(n.Walls)
	slices.Reverse(n.Anchors)
	slices.Reverse(n.Walls)
	return n
}

// turned returns the same anchors by their numbers in the opposite order.
func turned(n api.AnchorNet, list []int) []int {
	var l []int
	for _, i := range slices.Backward(list) {
		l = append(l, len(n.Anchors)-1-i)
	}
	return l
}

// P2.19.
func TestBackwards(t *testing.T) {
	d := dice(9)
	for _, n := range wideNets(9, 400) {
		back := backwards(n)
		if windOf(t, n, anchors.Wind) != windOf(t, back, anchors.Wind) || windOf(t, n, anchors.Storm) != windOf(t, back, anchors.Storm) {
			t.Fatalf("%v: Wind or Storm is not the same backwards", n)
		}
		at := d.truth(n)
		drags, same := list(t, n, anchors.Drags, at), list(t, back, anchors.Drags, at)
		first, too := list(t, n, anchors.First, at), list(t, back, anchors.First, at)
		if !slices.Equal(turned(n, drags), same) || !slices.Equal(turned(n, first), too) {
			t.Fatalf("%v, %v: Drags = %v, %v; First = %v, %v", n, at, drags, same, first, too)
		}
		end := len(n.Anchors) - 1
		for i := range n.Anchors {
			s, _ := anchors.Spare(n, i)
			r, e := anchors.Spare(back, end-i)
			is, _ := anchors.Drag(n, i)
			was, f := anchors.Drag(back, end-i)
			pulled, _ := anchors.Pulled(n, at, i)
			others, g := anchors.Pulled(back, at, end-i)
			if s != r || is != was || !slices.Equal(turned(n, pulled), others) || e != api.OK || f != api.OK || g != api.OK {
				t.Fatalf("%v, %v: %d: Spare = %v, %v; Drag = %d, %d; Pulled = %v, %v", n, at, i, s, r, is, was, pulled, others)
			}
		}
		for i := range n.Walls {
			is, e := anchors.Upright(n, i)
			was, f := anchors.Upright(back, end-1-i)
			if is != was || e != api.OK || f != api.OK {
				t.Fatalf("%v: Upright of %d = %d, %d", n, i, is, was)
			}
		}
		need, e := anchors.Need(n)
		same, f := anchors.Need(back)
		slices.Reverse(same)
		if !slices.Equal(need, same) || e != f {
			t.Fatalf("%v: Need = %v, %d; %v, %d", n, need, e, same, f)
		}
	}
}

// P2.20.
func TestWhatIsNeeded(t *testing.T) {
	needs := 0
	for _, n := range append(nets(10, 400), wideNets(10, 400)...) {
		was, _ := anchors.Safe(n)
		need, e := anchors.Need(n)
		if e == api.ErrNone {
			if was == api.Surely {
				t.Fatalf("%v: Safe, but Need: %d", n, e)
			}
			continue
		}
		if e != api.OK || len(need) != len(n.Anchors) || (was == api.Surely) != !slices.ContainsFunc(need, func(m int) bool { return m != 0 }) {
			t.Fatalf("%v: Safe = %d; Need = %v, %d", n, was, need, e)
		}
		enough := n
		for i, by := range need {
			enough = heavier(enough, i, by)
		}
		if safe, e := anchors.Safe(enough); safe != api.Surely || e != api.OK {
			t.Fatalf("%v: Need = %v; Safe = %d, %d", n, need, safe, e)
		}
		for i, by := range need {
			if by == 0 {
				continue
			}
			needs++
			if safe, e := anchors.Safe(heavier(enough, i, -1)); safe == api.Surely || e != api.OK {
				t.Fatalf("%v: Need = %v, but for %d; Safe = %d, %d", n, need, i, safe, e)
			}
		}
	}
	if needs < 100 {
		t.Errorf("too few anchors that need some: %d", needs)
	}
}

// P2.21.
func TestApart(t *testing.T) {
	d := dice(11)
	for _, n := range wideNets(11, 400) {
		if len(n.Walls) == 0 {
			continue
		}
		i := d.below(len(n.Walls))
		n.Walls[i].Sail, n.Walls[i].Drag = 0, 0
		left, right := n, n
		left.Anchors, left.Walls = n.Anchors[:i+1], n.Walls[:i]
		right.Anchors, right.Walls = n.Anchors[i+1:], n.Walls[i+1:]
		for range 20 {
			at := d.truth(n)
			apart := list(t, left, anchors.Drags, at)
			for _, j := range list(t, right, anchors.Drags, at) {
				apart = append(apart, j+i+1)
			}
			if drags := list(t, n, anchors.Drags, at); !slices.Equal(drags, apart) {
				t.Fatalf("%v, %v: Drags = %v, not %v", n, at, drags, apart)
			}
		}
	}
}
