package shares_test

import (
	"slices"
	"testing"

	"almadraba/api"
	"almadraba/shares"
)

// must returns a function that returns what was returned without an error.
func must[T any](t *testing.T, c api.ShareCustom) func(T, api.Errno) T {
	return func(result T, e api.Errno) T {
		t.Helper()
		if e != api.OK {
			t.Fatalf("%v: the error %d", c, e)
		}
		return result
	}
}

// may returns a function that returns what was returned, or none.
func may(t *testing.T, c api.ShareCustom) func(int, api.Errno) int {
	return func(result int, e api.Errno) int {
		t.Helper()
		if e == api.ErrNone {
			return none
		}
		return must[int](t, c)(result, e)
	}
}

func getsOf(t *testing.T, c api.ShareCustom, pence int) []int {
	t.Helper()
	return must[[]int](t, c)(shares.Gets(c, pence))
}

func keepsOf(t *testing.T, c api.ShareCustom, pence int) []int {
	t.Helper()
	return must[[]int](t, c)(shares.Keeps(c, pence))
}

func splitOf(t *testing.T, c api.ShareCustom, node, pence int) ([]int, int) {
	t.Helper()
	below, keeps, e := shares.Split(c, node, pence)
	if e != api.OK {
		t.Fatalf("%v: Split: the error %d", c, e)
	}
	return below, keeps
}

// sumOf returns the sum of a list.
func sumOf(list []int) int {
	sum := 0
	for _, n := range list {
		sum += n
	}
	return sum
}

// P10.13.
func TestPaidOnce(t *testing.T) {
	d := dice(21)
	kept := 0
	for _, c := range customs(21, 600) {
		pence := d.below(api.MaxSharePence + 1)
		gets, keeps := getsOf(t, c, pence), keepsOf(t, c, pence)
		if sumOf(keeps) != pence || gets[0] != pence {
			t.Fatalf("%v: of %d pence all get %v and keep %v", c, pence, gets, keeps)
		}
		for node := range c.Nodes {
			sum := keeps[node]
			for _, other := range heirs(c, node) {
				sum += gets[other]
			}
			below, rest := splitOf(t, c, node, gets[node])
			if sum != gets[node] || sumOf(below)+rest != sum || rest != keeps[node] {
				t.Fatalf("%v: of %d pence %d gets %d, those below it and what it keeps are %d: %v, %d", c, pence, node, gets[node], sum, below, rest)
			}
			if rest > 0 && len(below) > 0 {
				kept++
			}
		}
	}
	if kept < 50 {
		t.Errorf("too few nodes with some below keep anything: %d", kept)
	}
}

// P10.14.
func TestHowNear(t *testing.T) {
	d := dice(22)
	var found [2]int // rounded down, and 1 more
	for _, c := range customs(22, 1000) {
		for node := range c.Nodes {
			list, sum := heirs(c, node), 0
			for _, other := range list {
				sum += c.Nodes[other].Weight
			}
			if sum == 0 || slices.ContainsFunc(list, func(other int) bool { return c.Nodes[other].Fixed > 0 }) {
				continue
			}
			pence := d.below(api.MaxSharePence + 1)
			below, _ := splitOf(t, c, node, pence)
			for at, other := range list {
				part := pence * c.Nodes[other].Weight / sum
				if below[at] != part && below[at] != part+1 {
					t.Fatalf("%v: of %d pence of %d %d gets %d, its part is %d", c, pence, node, other, below[at], part)
				}
				found[below[at]-part]++
			}
		}
	}
	if slices.Min(found[:]) < 300 {
		t.Errorf("too few nodes of one kind: %v", found)
	}
}

// P10.15.
func TestOnePennyMore(t *testing.T) {
	var found [3]int // 1 less, nothing more, 1 more
	for _, c := range customs(23, 150) {
		before := getsOf(t, c, 0)
		for pence := range api.MaxSharePence {
			after := getsOf(t, c, pence+1)
			for node := range c.Nodes {
				more := after[node] - before[node]
				if more < -1 || more > 1 {
					t.Fatalf("%v: of %d pence %d gets %d, of one more %d", c, pence, node, before[node], after[node])
				}
				found[more+1]++
			}
			before = after
		}
	}
	if slices.Min(found[:]) < 100 {
		t.Errorf("too few nodes of one kind: %v", found)
	}
}

// isFirst reports whether a node is the first one with a Weight below its Up, and so on up to the node 0.
func isFirst(c api.ShareCustom, node int) bool {
	if node == 0 {
		return true
	}
	up := c.Nodes[node].Up
	for _, other := range heirs(c, up) {
		if c.Nodes[other].Weight > 0 {
			return other == node && isFirst(c, up)
		}
	}
	return false
}

// P10.16, and that of two pence next to one another a node that falls gets more of the first.
func TestFirstOnes(t *testing.T) {
	firsts, fall := 0, 0
	for _, c := range append(customs(24, 200), late(0), late(8)) {
		for node := range c.Nodes {
			pence := may(t, c)(shares.Falls(c, node))
			if isFirst(c, node) {
				firsts++
				if pence != none {
					t.Fatalf("%v: %d is always the first one, and falls behind %d", c, node, pence)
				}
			}
			if pence != none {
				fall++
				if getsOf(t, c, pence)[node] != getsOf(t, c, pence+1)[node]+1 {
					t.Fatalf("%v: Falls of %d = %d", c, node, pence)
				}
			}
		}
	}
	if firsts < 300 || fall < 30 {
		t.Errorf("too few nodes of one kind: %d, %d", firsts, fall)
	}
}

// own returns so many payments of a custom.
func (d *dice) own(t *testing.T, c api.ShareCustom, many int) []api.SharePay {
	var old []api.SharePay
	for range many {
		pence, node := d.below(api.MaxSharePence+1), d.below(len(c.Nodes))
		old = append(old, pay(pence, node, getsOf(t, c, pence)[node]))
	}
	return old
}

// P10.17: its own payments.
func TestOwnPayments(t *testing.T) {
	d := dice(25)
	fewer := 0
	for _, c := range customs(25, 300) {
		old := d.own(t, c, d.below(api.MaxSharePays))
		if list := must[[]int](t, c)(shares.Wrong(c, old)); len(list) > 0 {
			t.Fatalf("%v: of its own payments %v %v are wrong", c, old, list)
		}
		for node := 1; node < len(c.Nodes); node++ {
			before := must[[]int](t, c)(shares.Weights(c, node, old))
			if !slices.Contains(before, c.Nodes[node].Weight) {
				t.Fatalf("%v: by its own payments %v the Weight of %d is one of %v", c, old, node, before)
			}
			more := append(slices.Clone(old), pay(d.below(50), d.below(len(c.Nodes)), d.below(10)))
			after, e := shares.Weights(c, node, more)
			if e != api.OK && e != api.ErrNone || slices.ContainsFunc(after, func(weight int) bool { return !slices.Contains(before, weight) }) {
				t.Fatalf("%v: by %v the Weight of %d is one of %v, by %v of %v: %d", c, old, node, before, more, after, e)
			}
			if len(after) < len(before) {
				fewer++
			}
		}
	}
	if fewer < 300 {
		t.Errorf("too few nodes with fewer Weights: %d", fewer)
	}
}

// P10.17: a payment of the pence of Ask.
func TestAskedPayments(t *testing.T) {
	d := dice(26)
	var found [2]int // how many Weights there are then
	for _, c := range customs(26, 120) {
		for node := 1; node < len(c.Nodes); node++ {
			old := d.own(t, c, d.below(3))
			pence := may(t, c)(shares.Ask(c, node, old))
			if pence == none {
				continue
			}
			right := getsOf(t, c, pence)[node]
			for _, coins := range []int{right, right + 1, max(0, right-2), d.below(60)} {
				list, e := shares.Weights(c, node, append(slices.Clone(old), pay(pence, node, min(coins, api.MaxSharePence))))
				if e != api.OK && e != api.ErrNone || len(list) > 1 || coins == right && !slices.Equal(list, []int{c.Nodes[node].Weight}) {
					t.Fatalf("%v: Ask of %d and %v = %d, of %d coins %v, %d", c, node, old, pence, coins, list, e)
				}
				found[len(list)]++
			}
		}
	}
	if slices.Min(found[:]) < 100 {
		t.Errorf("too few payments of one kind: %v", found)
	}
}

// P10.18.
func TestGreaterWeights(t *testing.T) {
	d := dice(27)
	many := 0
	for _, c := range customs(27, 600) {
		greatest := 0
		for _, n := range c.Nodes {
			greatest = max(greatest, n.Weight)
		}
		times := 2 + d.below(8)
		if greatest*times > api.MaxShareWeight {
			times = 2
		}
		if greatest*times > api.MaxShareWeight {
			continue
		}
		other := api.ShareCustom{Nodes: slices.Clone(c.Nodes)}
		for node := range other.Nodes {
			other.Nodes[node].Weight *= times
		}
		pence, node, least := d.below(api.MaxSharePence+1), d.below(len(c.Nodes)), keepsOf(t, c, d.below(api.MaxSharePence+1))
		a := args{node: node, pence: pence, coins: d.below(60), least: least, old: d.payments(c, 3), fair: fairF()}
		want, got := callAll(c, a), callAll(other, a)
		for i := range want[:9] { // not of Weights and Ask, which are of one Weight
			if got[i].e != want[i].e {
				t.Fatalf("%v: %s has the error %d, of %v %d", c, want[i].name, want[i].e, other, got[i].e)
			}
			if want[i].e == api.OK {
				same(t, other, got[i].name, got[i].result, got[i].e, want[i].result)
			}
		}
		many++
	}
	if many < 150 {
		t.Errorf("too few customs: %d", many)
	}
}

// P10.19.
func TestEnoughOrLess(t *testing.T) {
	d := dice(28)
	found := 0
	for _, c := range customs(28, 200) {
		least := keepsOf(t, c, d.below(api.MaxSharePence+1))
		for range d.below(3) {
			node := d.below(len(c.Nodes))
			least[node] = d.below(least[node] + 1)
		}
		pence := must[int](t, c)(shares.Enough(c, least))
		for less := range pence + 1 {
			isEnough := true
			for node, coins := range keepsOf(t, c, less) {
				isEnough = isEnough && coins >= least[node]
			}
			if isEnough != (less == pence) {
				t.Fatalf("%v: Enough of %v = %d, %d are enough: %t", c, least, pence, less, isEnough)
			}
		}
		fewer := slices.Clone(least)
		node := d.below(len(c.Nodes))
		fewer[node] = d.below(fewer[node] + 1)
		if is := must[int](t, c)(shares.Enough(c, fewer)); is > pence {
			t.Fatalf("%v: Enough of %v = %d, of %v %d", c, least, pence, fewer, is)
		} else if is < pence {
			found++
		}
	}
	if found < 30 {
		t.Errorf("too few lists that need less: %d", found)
	}
}

// P10.20.
func TestPartsTogether(t *testing.T) {
	var found [2]int // whether all Weights are 0
	for _, c := range customs(29, 1000) {
		for node := range c.Nodes {
			of := must[api.Ratio](t, c)(shares.Exact(c, node))
			num, den, weights := 0, 1, 0
			for _, other := range heirs(c, node) {
				part := must[api.Ratio](t, c)(shares.Exact(c, other))
				num, den = num*part.Den+part.Num*den, den*part.Den
				weights += c.Nodes[other].Weight
				for divisor := 2; divisor <= 63; divisor++ { // so that they do not grow beyond an int
					for num%divisor == 0 && den%divisor == 0 {
						num, den = num/divisor, den/divisor
					}
				}
			}
			switch {
			case weights == 0 && num != 0, weights > 0 && num*of.Den != of.Num*den:
				t.Fatalf("%v: %d has the part %v, those below it %d/%d", c, node, of, num, den)
			}
			found[min(weights, 1)]++
		}
	}
	if slices.Min(found[:]) < 500 {
		t.Errorf("too few nodes of one kind: %v", found)
	}
}

// P10.21.
func TestJustSoMany(t *testing.T) {
	d := dice(30)
	var found [2]int // whether there is one
	for _, c := range customs(30, 100) {
		for node := range c.Nodes {
			coins := d.below(80)
			pence := may(t, c)(shares.From(c, node, coins))
			found[min(pence, 0)+1]++
			if pence == none {
				pence = api.MaxSharePence + 1
			} else if is := getsOf(t, c, pence)[node]; is != coins {
				t.Fatalf("%v: From of %d and %d = %d, of which it gets %d", c, node, coins, pence, is)
			}
			for less := range pence {
				if is := getsOf(t, c, less)[node]; is >= coins {
					t.Fatalf("%v: From of %d and %d = %d, of %d it gets %d", c, node, coins, pence, less, is)
				}
			}
		}
	}
	if slices.Min(found[:]) < 100 {
		t.Errorf("too few nodes of one kind: %v", found)
	}
}
