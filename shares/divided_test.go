package shares_test

import (
	"slices"
	"testing"

	"almadraba/api"
	"almadraba/sales"
	"almadraba/shares"
)

// dice is a row of numbers that are the same in each run.
type dice uint64

// below returns a number from 0 to below an end.
func (d *dice) below(end int) int {
	*d = *d*6364136223846793005 + 1442695040888963407
	return int(uint64(*d)>>33) % end
}

// custom returns a custom: Weights and Fixed of 0 are not rare, and nodes are more often below one of the first ones.
func (d *dice) custom() api.ShareCustom {
	var c api.ShareCustom
	weight, fixed, deep := 1+d.below(api.MaxShareWeight), d.below(2)*d.below(api.MaxShareFixed+1), 1+d.below(api.MaxShareNodes)
	for node := range max(1+d.below(api.MaxShareNodes), 1+d.below(api.MaxShareNodes)) {
		n := api.ShareNode{Up: api.ShareTop, Weight: d.below(weight + 1), Fixed: d.below(2) * d.below(fixed+1)}
		if d.below(6) == 0 {
			n.Weight = 0
		}
		if node > 0 {
			n.Up = d.below(min(node, deep))
		}
		c.Nodes = append(c.Nodes, n)
	}
	return c
}

// customs returns so many customs, the same ones each time.
func customs(seed, many int) []api.ShareCustom {
	d := dice(seed)
	list := []api.ShareCustom{customC(), customD(), alone(), fixed(), tangled(), falling(), chain(8, 1, 3), flat(0, 0)}
	for range many {
		list = append(list, d.custom())
	}
	return list
}

// purse is the pence that a node has, which it gives to the nodes below it, and keeps.
type purse struct {
	node, pence int
}

// heirs returns the nodes below a node, ascending.
func heirs(c api.ShareCustom, node int) []int {
	var list []int
	for other := 1; other < len(c.Nodes); other++ {
		if c.Nodes[other].Up == node {
			list = append(list, other)
		}
	}
	return list
}

// give takes so many pence out of the purse for each of some nodes, one by one, as long as there are any.
func (p *purse) give(node, many int, got []int) {
	for range many {
		if p.pence > 0 {
			p.pence--
			got[node]++
		}
	}
}

// empty gives what is in the purse to the nodes below its node, penny by penny.
func (p *purse) empty(c api.ShareCustom, got []int) {
	weights := 0
	for _, other := range heirs(c, p.node) {
		p.give(other, c.Nodes[other].Fixed, got)
		weights += c.Nodes[other].Weight
	}
	rest := p.pence
	for _, other := range heirs(c, p.node) {
		many := 0
		for (many+1)*weights <= rest*c.Nodes[other].Weight && weights > 0 {
			many++
		}
		p.give(other, many, got)
	}
	for _, other := range heirs(c, p.node) {
		if c.Nodes[other].Weight > 0 {
			p.give(other, 1, got)
		}
	}
}

// dealt returns what each node gets, and what it keeps, of so many pence.
func dealt(c api.ShareCustom, pence int) (gets, keeps []int) {
	gets, keeps = make([]int, len(c.Nodes)), make([]int, len(c.Nodes))
	gets[0] = pence
	for node := range c.Nodes {
		p := purse{node, gets[node]}
		p.empty(c, gets)
		keeps[node] = p.pence
	}
	return gets, keeps
}

// table has what each node gets, and what it keeps, of each number of pence.
type table struct {
	gets, keeps [api.MaxSharePence + 1][]int
}

// tableOf returns the table of a custom.
func tableOf(c api.ShareCustom) *table {
	var t table
	for pence := range t.gets {
		t.gets[pence], t.keeps[pence] = dealt(c, pence)
	}
	return &t
}

// first returns the first of the numbers below an end of which something is so, or none.
func first(end int, is func(int) bool) int {
	for n := range end {
		if is(n) {
			return n
		}
	}
	return none
}

// P10.2 and P10.3: all that is divided, of all customs.
func TestDivided(t *testing.T) {
	var found [3]int // what is kept by the node 0, by others above, and below
	for _, c := range customs(1, 250) {
		for pence := range api.MaxSharePence + 1 {
			want, kept := dealt(c, pence)
			gets(t, c, pence, want...)
			keeps(t, c, pence, kept...)
			for node, coins := range kept {
				switch {
				case coins == 0:
				case node == 0:
					found[0]++
				case len(heirs(c, node)) > 0:
					found[1]++
				default:
					found[2]++
				}
			}
		}
		if t.Failed() {
			return
		}
	}
	if slices.Min(found[:]) < 5000 {
		t.Errorf("too few nodes of one kind keep anything: %v", found)
	}
}

// P10.4.
func TestSplits(t *testing.T) {
	d := dice(2)
	var found [2]int // what the node keeps: nothing, something
	for _, c := range customs(2, 400) {
		for node := range c.Nodes {
			pence := d.below(api.MaxSharePence + 1)
			if d.below(2) == 0 {
				pence = d.below(30)
			}
			got, p := make([]int, len(c.Nodes)), purse{node, pence}
			p.empty(c, got)
			var below []int
			for _, other := range heirs(c, node) {
				below = append(below, got[other])
			}
			split(t, c, node, pence, p.pence, below...)
			if len(below) > 0 {
				found[min(p.pence, 1)]++
			}
		}
	}
	if slices.Min(found[:]) < 100 {
		t.Errorf("too few nodes of one kind: %v", found)
	}
}

// P10.5: for fairs with any bids.
func TestSales(t *testing.T) {
	d := dice(3)
	paying := 0
	for _, c := range customs(3, 500) {
		f := fairF()
		for n := range f.Bids {
			f.Bids[n].Pence = d.below(api.MaxSalePence + 1)
		}
		pence, e := sales.Paid(f)
		if e != api.OK {
			t.Fatalf("Paid of %v: %d", f, e)
		}
		_, want := dealt(c, pence)
		sold(t, c, f, want...)
		if pence > 0 {
			paying++
		}
	}
	if paying < 300 {
		t.Errorf("too few fairs at which something is paid: %d", paying)
	}
}

// P10.6 and P10.7: all pence are tried, one after the other.
func TestPenceByPence(t *testing.T) {
	var fromIs, fallIs [2]int // whether there is one
	for _, c := range customs(4, 150) {
		all := tableOf(c)
		for node := range c.Nodes {
			for _, coins := range []int{0, 1, 2, 5, 13, 60, 200, 400} {
				want := first(api.MaxSharePence+1, func(pence int) bool { return all.gets[pence][node] >= coins })
				from(t, c, node, coins, want)
				fromIs[min(want, 0)+1]++
			}
			want := first(api.MaxSharePence, func(pence int) bool { return all.gets[pence][node] > all.gets[pence+1][node] })
			got, e := shares.Falls(c, node)
			number(t, c, "Falls", got, e, want)
			fallIs[min(want, 0)+1]++
		}
		if t.Failed() {
			return
		}
	}
	if slices.Min(fromIs[:]) < 1000 || slices.Min(fallIs[:]) < 30 {
		t.Errorf("too few nodes of one kind: %v, %v", fromIs, fallIs)
	}
}

// P10.8: what a node gets of so many pence that nothing need be rounded, if there are no Fixed.
func TestParts(t *testing.T) {
	kinds := map[api.Ratio]int{}
	for _, c := range customs(5, 1500) {
		bare, whole := api.ShareCustom{Nodes: slices.Clone(c.Nodes)}, 1
		for node := range bare.Nodes {
			bare.Nodes[node].Fixed = 0
			sum := 0
			for _, other := range heirs(c, node) {
				sum += c.Nodes[other].Weight
			}
			whole *= max(1, sum)
		}
		if whole > 20000 {
			continue
		}
		want, _ := dealt(bare, whole)
		for node, coins := range want {
			got, e := shares.Exact(c, node)
			divisor := whole
			for coins%divisor > 0 || whole%divisor > 0 {
				divisor--
			}
			same(t, c, "Exact", got, e, api.Ratio{Num: coins / divisor, Den: whole / divisor})
			kinds[got]++
		}
	}
	if len(kinds) < 100 || kinds[api.Ratio{Num: 0, Den: 1}] < 500 {
		t.Errorf("too few kinds of parts: %v", kinds)
	}
}

// P10.9: all pence are tried.
func TestLeastThatIsEnough(t *testing.T) {
	d := dice(6)
	var found [2]int // whether there is one
	for _, c := range customs(6, 250) {
		all := tableOf(c)
		for range 8 {
			least := slices.Clone(all.keeps[d.below(api.MaxSharePence+1)])
			for node := range least {
				if d.below(3) == 0 {
					least[node] = min(max(0, least[node]+1-d.below(4)), api.MaxSharePence)
				}
				if d.below(3) == 0 {
					least[node] = 0
				}
			}
			want := first(api.MaxSharePence+1, func(pence int) bool {
				for node := range least {
					if all.keeps[pence][node] < least[node] {
						return false
					}
				}
				return true
			})
			enough(t, c, want, least...)
			found[min(want, 0)+1]++
		}
	}
	if slices.Min(found[:]) < 300 {
		t.Errorf("too few lists of one kind: %v", found)
	}
}

// payments returns some payments, which are those of a custom or nearly so.
func (d *dice) payments(c api.ShareCustom, many int) []api.SharePay {
	var old []api.SharePay
	for range many {
		pence, node := d.below(api.MaxSharePence+1), d.below(len(c.Nodes))
		if d.below(2) == 0 {
			pence = d.below(25)
		}
		want, _ := dealt(c, pence)
		coins := want[node]
		if d.below(8) == 0 {
			coins = max(0, coins-1+d.below(3))
		}
		old = append(old, pay(pence, node, min(coins, api.MaxSharePence)))
	}
	return old
}

// P10.10.
func TestWrongPayments(t *testing.T) {
	d := dice(7)
	var found [3]int // how many are wrong: none, some, all
	for _, c := range customs(7, 2000) {
		old := d.payments(c, 1+d.below(api.MaxSharePays))
		if d.below(4) == 0 { // those of another custom
			old = d.payments(weighing(c, len(c.Nodes)-1, d.below(api.MaxShareWeight+1)), len(old))
		}
		var want []int
		for number, p := range old {
			if list, _ := dealt(c, p.Pence); list[p.Node] != p.Coins {
				want = append(want, number)
			}
		}
		wrong(t, c, old, want...)
		switch len(want) {
		case 0:
			found[0]++
		case len(old):
			found[2]++
		default:
			found[1]++
		}
	}
	if slices.Min(found[:]) < 50 {
		t.Errorf("too few lists of one kind: %v", found)
	}
}

// weighing returns the custom with another Weight of a node.
func weighing(c api.ShareCustom, node, weight int) api.ShareCustom {
	c.Nodes = slices.Clone(c.Nodes)
	c.Nodes[node].Weight = weight
	return c
}

// weightsOf returns all Weights of a node with which all payments are right.
func weightsOf(c api.ShareCustom, node int, old []api.SharePay) []int {
	var list []int
	for weight := range api.MaxShareWeight + 1 {
		other := weighing(c, node, weight)
		wrong := func(p api.SharePay) bool {
			want, _ := dealt(other, p.Pence)
			return want[p.Node] != p.Coins
		}
		if !slices.ContainsFunc(old, wrong) {
			list = append(list, weight)
		}
	}
	return list
}

// asked returns the least number of pence of which a node gets another number with each of some Weights.
func asked(c api.ShareCustom, node int, list []int) int {
	return first(api.MaxSharePence+1, func(pence int) bool {
		var coins []int
		for _, weight := range list {
			want, _ := dealt(weighing(c, node, weight), pence)
			coins = append(coins, want[node])
		}
		slices.Sort(coins)
		return len(slices.Compact(coins)) == len(list)
	})
}

// P10.11 and P10.12: all Weights and all pence are tried.
func TestWeightsAsked(t *testing.T) {
	d := dice(8)
	many := map[int]int{} // how many Weights there are
	var found [3]int      // whether there are none to ask of, or one, or a number that tells more of them apart
	for _, c := range customs(8, 250) {
		if len(c.Nodes) == 1 {
			continue
		}
		for k := range 3 {
			node, old := 1+d.below(len(c.Nodes)-1), d.payments(c, k)
			if k == 2 { // of the node itself, or of one beside it
				next := d.payments(weighing(c, node, d.below(api.MaxShareWeight+1)), 9)
				old = slices.DeleteFunc(next, func(p api.SharePay) bool { return p.Node == 0 || c.Nodes[p.Node].Up != c.Nodes[node].Up })
				old = old[:min(len(old), api.MaxSharePays)]
			}
			list := weightsOf(c, node, old)
			weights(t, c, node, old, list...)
			want := none
			if len(list) > 0 {
				want = asked(c, node, list)
			}
			ask(t, c, node, old, want)
			many[len(list)]++
			found[min(want, 1)+1]++
		}
		if t.Failed() {
			return
		}
	}
	if slices.Min(found[:]) < 50 || len(many) < 8 || many[0] < 50 || many[1] < 50 {
		t.Errorf("too few of one kind: %v, %v", many, found)
	}
}
