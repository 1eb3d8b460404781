package sales_test

import (
	"slices"
	"testing"

	"almadraba/api"
	"almadraba/sales"
	"almadraba/salt"
)

// dice is a row of numbers that are the same in each run.
type dice uint64

// below returns a number from 0 to below an end.
func (d *dice) below(end int) int {
	*d = *d*6364136223846793005 + 1442695040888963407
	return int(uint64(*d)>>33) % end
}

// shuffled returns the numbers from 0 to below an end in any order.
func (d *dice) shuffled(end int) []int {
	var order []int
	for n := range end {
		order = slices.Insert(order, d.below(n+1), n)
	}
	return order
}

// packed returns a fair without bids: its house has barrels that are as large as a packing needs them, or more.
func (d *dice) packed(parts, barrels int) api.SaleFair {
	var f api.SaleFair
	for range 1 + d.below(api.MaxSaltKinds) {
		f.House.Kinds = append(f.House.Kinds, api.SaltKind{Salt: d.below(api.MaxSaltStrong + 1), Days: []int{0, 0, 3, 6, 13, 20}[d.below(6)]})
	}
	f.House.Barrels = make([]int, barrels)
	for barrel := range barrels {
		f.House.Barrels[barrel] = d.below(2) * d.below(30)
	}
	for part := range parts {
		barrel, pounds := d.below(barrels), d.below(9)
		if d.below(4) > 0 {
			barrel = part % barrels
		}
		f.House.Parts = append(f.House.Parts, api.SaltPart{Kind: d.below(len(f.House.Kinds)), Pounds: pounds})
		f.House.Barrels[barrel] += 2*pounds + 1
		f.Pack = append(f.Pack, barrel)
	}
	for barrel := range barrels {
		f.House.Barrels[barrel] = min(f.House.Barrels[barrel], api.MaxSaltSize)
	}
	f.Day = []int{0, 3, 5, 6, 7, 12, 13, 14, 20, 20, 20, 20}[d.below(12)]
	return f
}

// offer returns a bid of one of some buyers, more often for few barrels than for many.
func (d *dice) offer(buyers, barrels, pence int) api.SaleBid {
	b := bid(d.below(buyers), d.below(pence+1))
	many := 1 + d.below(2)*d.below(4)
	b.Barrels = slices.Sorted(slices.Values(d.shuffled(barrels)[:min(many, barrels)]))
	return b
}

// fair returns a fair; equal pence, and parts of those of other bids together, are not rare.
func (d *dice) fair(parts, barrels, bids int) api.SaleFair {
	f := d.packed(max(d.below(parts+1), d.below(parts+1)), max(1+d.below(barrels), 1+d.below(barrels)))
	f.Buyers = max(d.below(api.MaxSaleBuyers+1), d.below(api.MaxSaleBuyers+1))
	pence := []int{1, 3, 12, api.MaxSalePence}[d.below(4)]
	if f.Buyers > 0 {
		for number := range max(d.below(bids+1), d.below(bids+1)) {
			b := d.offer(f.Buyers, len(f.House.Barrels), pence)
			if d.below(2) == 0 {
				b.Buyer = number % f.Buyers
			}
			f.Bids = append(f.Bids, b)
		}
	}
	return f
}

// fairs returns so many fairs, the same ones each time.
func fairs(seed, many, parts, barrels, bids int) []api.SaleFair {
	d := dice(seed)
	list := []api.SaleFair{{}, fairF(), fairG(), fresh()}
	for range many {
		list = append(list, d.fair(parts, barrels, bids))
	}
	return list
}

// isReady reports whether a barrel is ready on a day, part by part.
func isReady(f api.SaleFair, barrel, day int) bool {
	parts := 0
	for part, at := range f.Pack {
		if at == barrel {
			parts++
			if f.House.Kinds[f.House.Parts[part].Kind].Days > day {
				return false
			}
		}
	}
	return parts > 0
}

// isSale reports whether an ascending list of bids is a sale: each barrel is sold once, and is ready, and each buyer has one bid.
func isSale(f api.SaleFair, list []int) bool {
	var buyers, barrels []int
	for _, number := range list {
		buyers = append(buyers, f.Bids[number].Buyer)
		barrels = append(barrels, f.Bids[number].Barrels...)
	}
	for _, some := range [][]int{buyers, barrels} {
		slices.Sort(some)
		if len(slices.Compact(slices.Clone(some))) < len(some) {
			return false
		}
	}
	return !slices.ContainsFunc(barrels, func(barrel int) bool { return !isReady(f, barrel, f.Day) })
}

// choices returns all lists of numbers below an end, strictly ascending.
func choices(end int) [][]int {
	lists := [][]int{nil}
	for n := range end {
		for _, list := range slices.Clone(lists) {
			lists = append(lists, append(slices.Clone(list), n))
		}
	}
	return lists
}

// salesOf returns all sales in their order.
func salesOf(f api.SaleFair) [][]int {
	list := slices.DeleteFunc(choices(len(f.Bids)), func(list []int) bool { return !isSale(f, list) })
	slices.SortFunc(list, func(a, b []int) int {
		if len(a) != len(b) {
			return len(a) - len(b)
		}
		return slices.Compare(a, b)
	})
	return list
}

// penceOf returns what a sale brings.
func penceOf(f api.SaleFair, sale []int) int {
	sum := 0
	for _, number := range sale {
		sum += f.Bids[number].Pence
	}
	return sum
}

// bestOf returns the best sales in their order, and what they bring.
func bestOf(f api.SaleFair) ([][]int, int) { return bestAmong(f, salesOf(f)) }

// bestAmong returns the best of some sales in their order, and what they bring.
func bestAmong(f api.SaleFair, list [][]int) ([][]int, int) {
	var best [][]int
	pence := -1
	for _, sale := range list {
		is := penceOf(f, sale)
		if is > pence {
			best, pence = nil, is
		}
		if is == pence {
			best = append(best, sale)
		}
	}
	return best, pence
}

// onDay returns the fair on another day.
func onDay(f api.SaleFair, day int) api.SaleFair {
	f.Day = day
	return f
}

// offered returns the fair with other pence of a bid.
func offered(f api.SaleFair, number, pence int) api.SaleFair {
	f.Bids = slices.Clone(f.Bids)
	f.Bids[number].Pence = pence
	return f
}

// without returns the fair without all bids of a buyer.
func without(f api.SaleFair, buyer int) api.SaleFair {
	f.Bids = slices.DeleteFunc(slices.Clone(f.Bids), func(b api.SaleBid) bool { return b.Buyer == buyer })
	return f
}

// payOf returns what a buyer pays.
func payOf(f api.SaleFair, buyer int) int {
	best, pence := bestOf(f)
	for _, number := range best[0] {
		if f.Bids[number].Buyer == buyer {
			_, others := bestOf(without(f, buyer))
			return others - (pence - f.Bids[number].Pence)
		}
	}
	return 0
}

// packsOf returns all packings; compared number by number, the first one comes first.
func packsOf(f api.SaleFair) [][]int {
	lists := [][]int{nil}
	for range f.House.Parts {
		var longer [][]int
		for _, list := range lists {
			for barrel := range f.House.Barrels {
				longer = append(longer, append(slices.Clone(list), barrel))
			}
		}
		lists = longer
	}
	return slices.DeleteFunc(lists, func(list []int) bool {
		is, _ := salt.Good(f.House, list)
		return !is
	})
}

// P9.1: all fairs of the tests are valid.
func TestFairsAreValid(t *testing.T) {
	for _, f := range fairs(1, 3000, 6, 4, 8) {
		if e := sales.Check(f); e != api.OK {
			t.Fatalf("%v: Check = %d", f, e)
		}
	}
}

// P9.2: on each day.
func TestReadyOnDays(t *testing.T) {
	var found [2]int
	for _, f := range fairs(2, 1000, 6, 4, 0) {
		for day := range api.MaxSaltDays + 1 {
			var want []int
			for barrel := range f.House.Barrels {
				if isReady(f, barrel, day) {
					want = append(want, barrel)
					found[1]++
				} else {
					found[0]++
				}
			}
			ready(t, onDay(f, day), want...)
		}
	}
	if slices.Min(found[:]) < 10000 {
		t.Errorf("too few barrels of one kind: %v", found)
	}
}

// P9.3: of all choices of bids, and of these in another order.
func TestGoodOfChoices(t *testing.T) {
	d := dice(3)
	found := map[int]int{}
	for _, f := range fairs(3, 4000, 6, 4, 8) {
		for _, list := range choices(len(f.Bids)) {
			is := isSale(f, list)
			good(t, f, is, list...)
			if is {
				found[len(list)]++
			} else {
				found[-1]++
			}
			var other []int
			for _, i := range d.shuffled(len(list)) {
				other = append(other, list[i])
			}
			good(t, f, is && slices.IsSorted(other), other...)
		}
	}
	if found[-1] < 10000 || found[1] < 1000 || found[2] < 1000 || found[3] < 200 || found[4] < 5 {
		t.Errorf("too few lists of one kind: %v", found)
	}
}

// P9.4 to P9.6: by all sales.
func TestBestSales(t *testing.T) {
	found := map[int]int{}
	several, longer := 0, 0
	for _, f := range fairs(4, 6000, 6, 4, 8) {
		best, pence := bestOf(f)
		most(t, f, pence, best[0]...)
		if len(best) > 1 && len(best[1]) == len(best[0]) {
			several++
		}
		if len(best[0]) > 2 {
			longer++
		}
		var want []int
		for number := range f.Bids {
			in := 0
			for _, sale := range best {
				if slices.Contains(sale, number) {
					in++
				}
			}
			switch in {
			case 0:
				want = append(want, api.Never)
			case len(best):
				want = append(want, api.Surely)
			default:
				want = append(want, api.Perhaps)
			}
			found[want[number]]++
		}
		won(t, f, want...)
	}
	if several < 500 || longer < 100 || found[api.Surely] < 1000 || found[api.Never] < 1000 || found[api.Perhaps] < 1000 {
		t.Errorf("too few fairs, or bids, of one kind: %d, %d, %v", several, longer, found)
	}
}

// P9.7 and P9.8: by all sales without the bids of a buyer.
func TestWhatIsPaid(t *testing.T) {
	all, part, nothing, two := 0, 0, 0, 0
	for _, f := range fairs(5, 8000, 6, 4, 8) {
		var want []int
		paying := 0
		best, _ := bestOf(f)
		for buyer := range f.Buyers {
			pay := payOf(f, buyer)
			want = append(want, pay)
			for _, number := range best[0] {
				switch pence := f.Bids[number].Pence; {
				case f.Bids[number].Buyer != buyer:
				case pay == 0:
					nothing++
				case pay < pence:
					part++
				default:
					all++
				}
			}
			if pay > 0 {
				paying++
			}
		}
		if paying > 1 {
			two++
		}
		pays(t, f, want...)
	}
	if all < 500 || part < 500 || nothing < 500 || two < 200 {
		t.Errorf("too few bids, or fairs, of one kind: %d, %d, %d, %d", all, part, nothing, two)
	}
}

// P9.9: with each number of pence.
func TestNeedOfPence(t *testing.T) {
	never, nothing, some, much := 0, 0, 0, 0
	for _, f := range fairs(6, 1500, 6, 4, 8) {
		var want []int
		list := salesOf(f)
		for number := range f.Bids {
			least := none
			for pence := api.MaxSalePence; pence >= 0; pence-- {
				best, _ := bestAmong(offered(f, number, pence), list)
				if slices.ContainsFunc(best, func(sale []int) bool { return slices.Contains(sale, number) }) {
					least = pence
				}
			}
			want = append(want, least)
			switch {
			case least < 0 && isSale(f, []int{number}):
				much++
			case least < 0:
				never++
			case least == 0:
				nothing++
			default:
				some++
			}
		}
		need(t, f, want...)
	}
	if never < 200 || nothing < 200 || some < 200 || much < 10 {
		t.Errorf("too few bids of one kind: %d, %d, %d, %d", never, nothing, some, much)
	}
}

// P9.10 and P9.11: by all sales of each day.
func TestSalesOnDays(t *testing.T) {
	firsts := map[int]int{}
	differ, before := 0, 0
	for _, f := range fairs(7, 800, 6, 4, 8) {
		first, pence := 0, -1
		_, today := bestOf(f)
		for day := range api.MaxSaltDays + 1 {
			_, want := bestOf(onDay(f, day))
			on(t, f, day, want)
			if want > pence {
				first, pence = day, want
			}
			if want != today {
				differ++
			}
		}
		when(t, f, first)
		firsts[first]++
		if first < f.Day {
			before++
		}
	}
	if differ < 1000 || before < 100 || len(firsts) < 5 {
		t.Errorf("too few days of one kind: %d, %d, %v", differ, before, firsts)
	}
}

// P9.12: by all sales of each packing.
func TestRepackOfPackings(t *testing.T) {
	better, later, same := 0, 0, 0
	for _, f := range append(fairs(8, 200, 6, 4, 8), fairs(9, 1500, 4, 3, 6)...) {
		first, pence, equal := f.Pack, -1, 0
		_, now := bestOf(f)
		packs := packsOf(f)
		known := map[[api.MaxSaltBarrels]bool]int{} // what is ready says all
		for _, pack := range packs {
			f.Pack = pack
			var is [api.MaxSaltBarrels]bool
			for barrel := range f.House.Barrels {
				is[barrel] = isReady(f, barrel, f.Day)
			}
			if _, done := known[is]; !done {
				_, known[is] = bestOf(f)
			}
			if known[is] > pence {
				first, pence, equal = pack, known[is], 0
			}
			if known[is] == pence {
				equal++
			}
		}
		repack(t, f, first...)
		if pence > now {
			better++
		}
		if !slices.Equal(first, packs[0]) {
			later++
		}
		if equal > 1 {
			same++
		}
	}
	if better < 100 || later < 200 || same < 200 {
		t.Errorf("too few fairs of one kind: %d, %d, %d", better, later, same)
	}
}
