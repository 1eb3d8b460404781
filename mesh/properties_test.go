package mesh_test

import (
	"slices"
	"testing"

	"almadraba/api"
	"almadraba/mesh"
)

// P4.15.
func TestEachOrder(t *testing.T) {
	greater, later, over := 0, 0, 0
	for _, n := range nets(11, 300, 5) {
		least, done := leastOf(t, n), doneOf(t, n)
		for _, order := range ordersOf(n) {
			loss, end := lossOf(t, n, order), slices.Max(append(timesOf(t, n, order), 0))
			if loss < least || end < done {
				t.Fatalf("%v: Least = %d, Done = %d; of %v %d, %d", n, least, done, order, loss, end)
			}
			if loss > least {
				greater++
			}
			if end > done {
				later++
			}
		}
		for _, order := range [][]int{orderOf(t, n), ruleOf(t, n), calmOf(t, n)} {
			good(t, n, true, order...)
		}
		if loss := lossOf(t, n, orderOf(t, n)); loss != least {
			t.Fatalf("%v: Least = %d, of Order %d", n, least, loss)
		}
		more := overOf(t, n)
		if more < 0 || lossOf(t, n, ruleOf(t, n)) != least+more {
			t.Fatalf("%v: Least = %d, Over = %d", n, least, more)
		}
		over += more
	}
	if greater < 50 || later < 50 || over == 0 {
		t.Errorf("too few orders of one kind: %d, %d, %d", greater, later, over)
	}
}

// P4.16: and it is not so with two menders.
func TestRuleIsBest(t *testing.T) {
	d := dice(12)
	over := 0
	for range 300 {
		n := d.net(d.below(api.MaxMeshHoles+1), 0, func() api.MeshHole { return d.hole(0, 20, 20, 9) })
		n.Menders = 1
		more, e := mesh.Over(n)
		number(t, n, "Over", more, e, 0)
		n.Menders = 2
		over += overOf(t, n)
	}
	if over == 0 {
		t.Errorf("the rule is always best")
	}
}

// without returns a net without a hole that is in no pair.
func without(n api.MeshNet, hole int) api.MeshNet {
	n.Holes = slices.Concat(n.Holes[:hole], n.Holes[hole+1:])
	n.Pairs = slices.Clone(n.Pairs)
	less := func(other int) int {
		if other > hole {
			return other - 1
		}
		return other
	}
	for i, p := range n.Pairs {
		n.Pairs[i] = pair(less(p.A), less(p.B))
	}
	return n
}

// P4.17.
func TestOneHoleLessOneMenderMore(t *testing.T) {
	tests, less, more := 0, 0, 0
	for _, n := range nets(13, 500, 5) {
		least, done := leastOf(t, n), doneOf(t, n)
		for hole := range n.Holes {
			if slices.ContainsFunc(n.Pairs, func(p api.MeshPair) bool { return p.A == hole || p.B == hole }) {
				continue
			}
			other := without(n, hole)
			if leastOf(t, other) > least || doneOf(t, other) > done {
				t.Fatalf("%v: Least = %d, Done = %d; without %d %d, %d", n, least, done, hole, leastOf(t, other), doneOf(t, other))
			}
			less += done - doneOf(t, other)
			tests++
		}
		if n.Menders == api.MaxMeshMenders {
			continue
		}
		other := n
		other.Menders++
		if moreOf(t, n) < 0 || leastOf(t, other) != least-moreOf(t, n) || doneOf(t, other) > done {
			t.Fatalf("%v: Least = %d, Done = %d, More = %d; with one mender more %d, %d", n, least, done, moreOf(t, n), leastOf(t, other), doneOf(t, other))
		}
		more += done - doneOf(t, other)
	}
	if tests < 200 || less == 0 || more == 0 {
		t.Errorf("nothing is ever less: %d, %d, %d", tests, less, more)
	}
}

// withRate returns a net in which a hole has another rate.
func withRate(n api.MeshNet, hole, low, high int) api.MeshNet {
	n.Holes = slices.Clone(n.Holes)
	n.Holes[hole].Rate = api.Span{Low: low, High: high}
	return n
}

// P4.18.
func TestFewerFish(t *testing.T) {
	d := dice(14)
	least, regret := 0, 0
	for _, n := range nets(14, 300, 4) {
		if len(n.Holes) == 0 {
			continue
		}
		hole := d.below(len(n.Holes))
		r := n.Holes[hole].Rate
		if r.Low == r.High {
			continue
		}
		fewer := withRate(n, hole, r.Low, r.High-1-d.below(r.High-r.Low))
		if leastOf(t, fewer) > leastOf(t, n) {
			t.Fatalf("%v: Least = %d, with fewer fish in %d %d", n, leastOf(t, n), hole, leastOf(t, fewer))
		}
		least += leastOf(t, n) - leastOf(t, fewer)
		narrower := withRate(n, hole, r.Low+1+d.below(r.High-r.Low), r.High)
		for _, order := range ordersOf(n) {
			was := regretOf(t, n, order)
			for _, other := range []api.MeshNet{fewer, narrower} {
				if is := regretOf(t, other, order); is > was {
					t.Fatalf("%v: Regret of %v = %d, with a narrower rate of %d %d", n, order, was, hole, is)
				} else {
					regret += was - is
				}
			}
		}
	}
	if least == 0 || regret == 0 {
		t.Errorf("nothing is ever less: %d, %d", least, regret)
	}
}

// P4.19.
func TestMoreRopes(t *testing.T) {
	d := dice(15)
	none, least, done := 0, 0, 0
	for _, n := range nets(15, 600, 5) {
		if len(n.Holes) < 2 || len(n.Pairs) == api.MaxMeshPairs {
			continue
		}
		a := d.below(len(n.Holes))
		other := n
		other.Pairs = slices.Insert(slices.Clone(n.Pairs), d.below(len(n.Pairs)+1), pair(a, (a+1+d.below(len(n.Holes)-1))%len(n.Holes)))
		orders := ordersOf(other)
		if len(orders) == 0 {
			if e := mesh.Check(other); e != api.ErrMesh {
				t.Fatalf("%v: Check: %d", other, e)
			}
			none++
			continue
		}
		for _, order := range orders {
			good(t, other, true, order...)
			good(t, n, true, order...)
		}
		if leastOf(t, other) < leastOf(t, n) || doneOf(t, other) < doneOf(t, n) {
			t.Fatalf("%v: Least = %d, Done = %d; with one more pair %v %d, %d", n, leastOf(t, n), doneOf(t, n), other.Pairs, leastOf(t, other), doneOf(t, other))
		}
		rope := slices.Concat(other.Pairs[:ropeOf(t, other)], other.Pairs[ropeOf(t, other)+1:])
		if best := (api.MeshNet{Menders: n.Menders, Holes: n.Holes, Pairs: rope}); leastOf(t, best) > leastOf(t, n) {
			t.Fatalf("%v: Rope leaves %v, %v is better", other, rope, n.Pairs)
		}
		least += leastOf(t, other) - leastOf(t, n)
		done += doneOf(t, other) - doneOf(t, n)
	}
	if none < 20 || least == 0 || done == 0 {
		t.Errorf("nothing is ever more: %d, %d, %d", none, least, done)
	}
}

// P4.20.
func TestNoRegret(t *testing.T) {
	zero, ahead := 0, 0
	for _, n := range nets(16, 400, 4) {
		orders := ordersOf(n)
		for _, order := range orders {
			if regretOf(t, n, order) > 0 {
				continue
			}
			if lossOf(t, n, order) != leastOf(t, n) {
				t.Fatalf("%v: Regret of %v = 0, it loses %d, Least = %d", n, order, lossOf(t, n, order), leastOf(t, n))
			}
			mended := timesOf(t, n, order)
			for _, other := range orders {
				is := timesOf(t, n, other)
				for _, truth := range truthsOf(n, true) {
					if goneOf(n, mended, truth) > goneOf(n, is, truth) {
						t.Fatalf("%v: Regret of %v = 0; %v loses less in %v", n, order, other, truth)
					}
				}
				if goneOf(n, mended, mostOf(n)) < goneOf(n, is, mostOf(n)) {
					ahead++
				}
			}
			zero++
		}
		still := n
		for hole := range n.Holes {
			still = withRate(still, hole, 0, 0)
		}
		for _, order := range orders {
			regret, e := mesh.Regret(still, order)
			number(t, still, "Regret", regret, e, 0)
		}
		list(t, still, "Calm", calmOf(t, still), api.OK, orders[0]...)
	}
	if zero < 100 || ahead < 100 {
		t.Errorf("too few orders without regret: %d, %d", zero, ahead)
	}
}

// P4.21.
func TestAsFastAsCanBe(t *testing.T) {
	soonest, later := 0, 0
	for _, n := range nets(17, 300, 5) {
		for _, order := range ordersOf(n) {
			for hole, hour := range timesOf(t, n, order) {
				switch first := n.Holes[hole].From + n.Holes[hole].Hours; {
				case hour < first:
					t.Fatalf("%v: Times of %v: the hole %d at %d", n, order, hole, hour)
				case hour == first:
					soonest++
				default:
					later++
				}
			}
		}
		one := n
		one.Menders, one.Holes = 1, slices.Clone(n.Holes)
		sum := 0
		for hole := range one.Holes {
			one.Holes[hole].From = 0
			sum += one.Holes[hole].Hours
		}
		done, e := mesh.Done(one)
		number(t, one, "Done", done, e, sum)
	}
	if soonest < 100 || later < 100 {
		t.Errorf("too few holes of one kind: %d, %d", soonest, later)
	}
}

// P1: the largest nets, with all orders that there can be.
func TestLargest(t *testing.T) {
	for menders := 1; menders <= api.MaxMeshMenders; menders++ {
		n := largest()
		n.Menders, n.Pairs = menders, nil
		number(t, n, "Done", doneOf(t, n), api.OK, 20+9*6/menders)
		list(t, n, "Order", orderOf(t, n), api.OK, 0, 1, 2, 3, 4, 5)
		list(t, n, "Calm", calmOf(t, n), api.OK, 0, 1, 2, 3, 4, 5)
		for hole := range n.Holes {
			number(t, n, "First", firstOf(t, n, hole), api.OK, api.Perhaps)
		}
	}
}
