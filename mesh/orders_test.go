package mesh_test

import (
	"slices"
	"testing"

	"almadraba/api"
	"almadraba/mesh"
)

// dice is a row of numbers that are the same in each run.
type dice uint64

// below returns a number from 0 to below an end.
func (d *dice) below(end int) int {
	*d = *d*6364136223846793005 + 1442695040888963407
	return int(uint64(*d)>>33) % end
}

// shuffled returns the numbers from 0 to below an end in any order.
func (d *dice) shuffled(end int) []int {
	var list []int
	for i := range end {
		list = slices.Insert(list, d.below(i+1), i)
	}
	return list
}

// hole returns a hole with numbers up to some ends, and a rate that is at most so wide.
func (d *dice) hole(from, rate, wide, hours int) api.MeshHole {
	low := d.below(rate + 1)
	return hole(d.below(from+1), low, min(low+d.below(wide+1), api.MaxMeshRate), 1+d.below(hours))
}

// net returns a net with such holes; its pairs are of those of a list in which A comes before B.
func (d *dice) net(holes, pairs int, hole func() api.MeshHole) api.MeshNet {
	n := api.MeshNet{Menders: 1 + d.below(api.MaxMeshMenders)}
	for range holes {
		n.Holes = append(n.Holes, hole())
	}
	if order := d.shuffled(holes); holes > 1 {
		for range pairs {
			b := 1 + d.below(holes-1)
			n.Pairs = append(n.Pairs, pair(order[d.below(b)], order[b]))
		}
	}
	return n
}

// nets returns so many nets with at most so many holes, the same ones each time: in turns of any numbers, and of small
// ones, by which there are several best orders.
func nets(seed, many, most int) []api.MeshNet {
	d := dice(seed)
	list := []api.MeshNet{netN(), netM(), {Menders: 2}}
	large := func() api.MeshHole { return d.hole(20, 20, 20, 9) }
	small := func() api.MeshHole { return d.hole(2, 3, 2, 3) }
	for range many / 2 {
		list = append(list, d.net(d.below(most+1), d.below(api.MaxMeshPairs+1), large), d.net(1+d.below(most), d.below(3), small))
	}
	return list
}

// ordersOf returns all orders of a net, compared number by number: of all lists of its holes those that keep all pairs.
func ordersOf(n api.MeshNet) [][]int {
	lists := [][]int{{}}
	for range n.Holes {
		var longer [][]int
		for _, l := range lists {
			for hole := range n.Holes {
				if !slices.Contains(l, hole) {
					longer = append(longer, append(slices.Clone(l), hole))
				}
			}
		}
		lists = longer
	}
	return slices.DeleteFunc(lists, func(l []int) bool {
		return slices.ContainsFunc(n.Pairs, func(p api.MeshPair) bool { return slices.Index(l, p.A) >= slices.Index(l, p.B) })
	})
}

// hoursOf returns when each hole is mended by an order, hour by hour.
func hoursOf(n api.MeshNet, order []int) []int {
	mended, free := make([]int, len(n.Holes)), make([]int, n.Menders)
	for _, hole := range order {
		who := 0
		for mender := range free {
			if free[mender] < free[who] {
				who = mender
			}
		}
		hour := 0
		waits := func(p api.MeshPair) bool { return p.B == hole && mended[p.A] > hour }
		for hour < free[who] || hour < n.Holes[hole].From || slices.ContainsFunc(n.Pairs, waits) {
			hour++
		}
		free[who] = hour + n.Holes[hole].Hours
		mended[hole] = free[who]
	}
	return mended
}

// goneOf returns the loss with so many fish for each hole.
func goneOf(n api.MeshNet, mended, truth []int) int {
	sum := 0
	for hole, fish := range truth {
		sum += fish * (mended[hole] - n.Holes[hole].From)
	}
	return sum
}

// truthsOf returns all truths of a net, and only those with each number the least or the greatest one if ends is true.
func truthsOf(n api.MeshNet, ends bool) [][]int {
	all := [][]int{nil}
	for _, h := range n.Holes {
		var longer [][]int
		for _, truth := range all {
			for fish := h.Rate.Low; fish <= h.Rate.High; fish++ {
				if !ends || fish == h.Rate.Low || fish == h.Rate.High {
					longer = append(longer, append(slices.Clone(truth), fish))
				}
			}
		}
		all = longer
	}
	return all
}

// mostOf returns the truth with the most fish.
func mostOf(n api.MeshNet) []int {
	var truth []int
	for _, h := range n.Holes {
		truth = append(truth, h.Rate.High)
	}
	return truth
}

// greatestLosses returns the greatest loss by each order of a net.
func greatestLosses(n api.MeshNet) []int {
	var losses []int
	for _, order := range ordersOf(n) {
		losses = append(losses, goneOf(n, hoursOf(n, order), mostOf(n)))
	}
	return losses
}

// P4.2 to P4.4: of all lists of the holes; the losses in all truths of small nets.
func TestAllOrders(t *testing.T) {
	waits, wide := 0, 0
	for _, n := range nets(1, 200, 4) {
		orders := ordersOf(n)
		for _, order := range ordersOf(api.MeshNet{Menders: 1, Holes: n.Holes}) {
			is := slices.ContainsFunc(orders, func(l []int) bool { return slices.Equal(l, order) })
			good(t, n, is, order...)
			if !is {
				continue
			}
			mended := hoursOf(n, order)
			times(t, n, order, mended...)
			var gone []int
			for _, truth := range truthsOf(n, len(orders) > 6) {
				gone = append(gone, goneOf(n, mended, truth))
			}
			lost(t, n, order, slices.Min(gone), slices.Max(gone))
			if len(n.Holes) > 0 && slices.Max(mended) > n.Holes[order[0]].Hours+n.Holes[order[0]].From {
				waits++
			}
			if slices.Min(gone) < slices.Max(gone) {
				wide++
			}
		}
	}
	if waits < 200 || wide < 200 {
		t.Errorf("too few orders of one kind: %d, %d", waits, wide)
	}
}

// P4.5, P4.6 and P4.8: by all orders.
func TestBestOrders(t *testing.T) {
	several, notDone, later := 0, 0, 0
	for _, n := range nets(2, 800, api.MaxMeshHoles) {
		orders, losses := ordersOf(n), greatestLosses(n)
		want := slices.Min(losses)
		least, e := mesh.Least(n)
		number(t, n, "Least", least, e, want)
		at := slices.Index(losses, want)
		order, e := mesh.Order(n)
		list(t, n, "Order", order, e, orders[at]...)
		var ends []int
		for _, order := range orders {
			ends = append(ends, slices.Max(append(hoursOf(n, order), 0)))
		}
		done, e := mesh.Done(n)
		number(t, n, "Done", done, e, slices.Min(ends))
		if slices.Contains(losses[at+1:], want) {
			several++
		}
		if ends[at] > done {
			notDone++
		}
		if at > 0 {
			later++
		}
	}
	if several < 100 || notDone < 50 || later < 100 {
		t.Errorf("too few nets of one kind: %d, %d, %d", several, notDone, later)
	}
}

// P4.7: by all best orders.
func TestFirstOfBestOrders(t *testing.T) {
	var found [4]int
	for _, n := range nets(3, 500, 5) {
		losses := greatestLosses(n)
		best, heads := 0, make([]int, len(n.Holes))
		for i, order := range ordersOf(n) {
			if losses[i] == slices.Min(losses) && len(order) > 0 {
				best++
				heads[order[0]]++
			}
		}
		for hole, many := range heads {
			want := api.Perhaps
			switch many {
			case 0:
				want = api.Never
			case best:
				want = api.Surely
			}
			first, e := mesh.First(n, hole)
			number(t, n, "First", first, e, want)
			found[want]++
		}
	}
	if slices.Min(found[1:]) < 100 {
		t.Errorf("too few holes of one kind: %v", found)
	}
}

// isBefore reports whether the rule takes one hole before another one if both can come next.
func isBefore(n api.MeshNet, a, b int) bool {
	one, other := n.Holes[a], n.Holes[b]
	return one.Rate.High*other.Hours > other.Rate.High*one.Hours || one.Rate.High*other.Hours == other.Rate.High*one.Hours && a < b
}

// isRule reports whether at each place of an order no hole should have come before the one that is there.
func isRule(n api.MeshNet, order []int) bool {
	for at, hole := range order {
		for _, other := range order[at+1:] {
			waits := func(p api.MeshPair) bool { return p.B == other && !slices.Contains(order[:at], p.A) }
			if isBefore(n, other, hole) && !slices.ContainsFunc(n.Pairs, waits) {
				return false
			}
		}
	}
	return true
}

// P4.9 and P4.10: there is one such order.
func TestRuleOfOrders(t *testing.T) {
	over := 0
	for _, n := range nets(4, 500, api.MaxMeshHoles) {
		orders, losses := ordersOf(n), greatestLosses(n)
		is := func(order []int) bool { return isRule(n, order) }
		at := slices.IndexFunc(orders, is)
		rule, e := mesh.Rule(n)
		list(t, n, "Rule", rule, e, orders[at]...)
		if slices.ContainsFunc(orders[at+1:], is) {
			t.Fatalf("%v: there are two orders by the rule", n)
		}
		more, e := mesh.Over(n)
		number(t, n, "Over", more, e, losses[at]-slices.Min(losses))
		if more > 0 {
			over++
		}
	}
	if over < 100 {
		t.Errorf("too few nets of which the rule is no best order: %d", over)
	}
}

// P4.11 and P4.12: by the losses in all truths of small nets, and in those at the ends of larger ones.
func TestRegretOfTruths(t *testing.T) {
	calmer, zero, above := 0, 0, 0
	for _, n := range nets(5, 800, 4) {
		var gone [][]int
		orders := ordersOf(n)
		for _, order := range orders {
			var row []int
			for _, truth := range truthsOf(n, len(n.Holes) > 3) {
				row = append(row, goneOf(n, hoursOf(n, order), truth))
			}
			gone = append(gone, row)
		}
		var regrets []int
		for i, order := range orders {
			most := 0
			for truth := range gone[i] {
				for other := range orders {
					most = max(most, gone[i][truth]-gone[other][truth])
				}
			}
			regret, e := mesh.Regret(n, order)
			number(t, n, "Regret", regret, e, most)
			regrets = append(regrets, most)
			if most == 0 {
				zero++
			} else {
				above++
			}
		}
		calm, e := mesh.Calm(n)
		list(t, n, "Calm", calm, e, orders[slices.Index(regrets, slices.Min(regrets))]...)
		if !slices.Equal(calm, orderOf(t, n)) {
			calmer++
		}
	}
	if calmer < 10 || zero < 50 || above < 50 {
		t.Errorf("too few nets of one kind: %d, %d, %d", calmer, zero, above)
	}
}

// P4.13 and P4.14: by the least losses of the other nets.
func TestMoreAndRopeOfOthers(t *testing.T) {
	mores, ropes := 0, 0
	for _, n := range nets(7, 600, 5) {
		least := slices.Min(greatestLosses(n))
		if n.Menders < api.MaxMeshMenders {
			other := n
			other.Menders++
			want := least - slices.Min(greatestLosses(other))
			more, e := mesh.More(n)
			number(t, n, "More", more, e, want)
			if want > 0 {
				mores++
			}
		}
		var without []int
		for i := range n.Pairs {
			other := n
			other.Pairs = slices.Concat(n.Pairs[:i], n.Pairs[i+1:])
			without = append(without, slices.Min(greatestLosses(other)))
		}
		if len(without) == 0 {
			continue
		}
		want := slices.Index(without, slices.Min(without))
		rope, e := mesh.Rope(n)
		number(t, n, "Rope", rope, e, want)
		if want > 0 {
			ropes++
		}
	}
	if mores < 50 || ropes < 50 {
		t.Errorf("too few nets of one kind: %d, %d", mores, ropes)
	}
}
