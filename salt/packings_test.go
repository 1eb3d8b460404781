package salt_test

import (
	"slices"
	"testing"

	"almadraba/api"
	"almadraba/salt"
)

// dice is a row of numbers that are the same in each run.
type dice uint64

// below returns a number from 0 to below an end.
func (d *dice) below(end int) int {
	*d = *d*6364136223846793005 + 1442695040888963407
	return int(uint64(*d)>>33) % end
}

// shuffled returns the numbers from 0 to below an end in any order.
func (d *dice) shuffled(end int) []int {
	var order []int
	for n := range end {
		order = slices.Insert(order, d.below(n+1), n)
	}
	return order
}

// stored returns a house with kinds and parts, but without barrels; parts of few pounds, and equal ones, are not rare.
func (d *dice) stored(parts, most int) api.SaltHouse {
	var h api.SaltHouse
	for range 1 + d.below(api.MaxSaltKinds) {
		h.Kinds = append(h.Kinds, kind(d.below(api.MaxSaltStrong+1), []int{0, 3, 4, 7, 20}[d.below(5)]))
	}
	h.Floor = d.below(2) * d.below(api.MaxSaltStrong+1)
	for range parts {
		p := part(d.below(len(h.Kinds)), max(0, d.below(most+4)-3))
		if len(h.Parts) > 0 && d.below(5) == 0 {
			p = h.Parts[d.below(len(h.Parts))]
		}
		h.Parts = append(h.Parts, p)
	}
	return h
}

// house returns a house whose barrels are as large as some list needs them, or little more, or less.
func (d *dice) house(parts, barrels, most int) api.SaltHouse {
	h := d.stored(parts, most)
	h.Barrels = make([]int, barrels)
	var list []int
	for range h.Parts {
		list = append(list, d.below(barrels+1))
	}
	for barrel := range h.Barrels {
		size := poundsOf(h, partsIn(list, barrel)) + saltOf(h, partsIn(list, barrel)) + []int{0, 0, 1, 2, 5, 15, 40}[d.below(7)]
		if d.below(6) == 0 {
			size -= 1 + d.below(3)
		}
		h.Barrels[barrel] = min(max(size, 0), api.MaxSaltSize)
	}
	return h
}

// houses returns so many houses, the same ones each time: with many packings, with few, and with none.
func houses(seed, many, parts, barrels int) []api.SaltHouse {
	d := dice(seed)
	list := []api.SaltHouse{{}, houseS(), houseT(), full()}
	for range many {
		list = append(list, d.house(d.below(parts+1), d.below(barrels+1), []int{3, 12, 20, 40}[d.below(4)]))
	}
	return list
}

// listsOf returns all lists of so many numbers from one to below another one; compared number by number, the first one comes first.
func listsOf(many, from, end int) [][]int {
	lists := [][]int{nil}
	for range many {
		var longer [][]int
		for _, list := range lists {
			for n := from; n < end; n++ {
				longer = append(longer, append(slices.Clone(list), n))
			}
		}
		lists = longer
	}
	return lists
}

// partsIn returns the parts that a list says are in a barrel.
func partsIn(list []int, barrel int) []int {
	var parts []int
	for number, at := range list {
		if at == barrel {
			parts = append(parts, number)
		}
	}
	return parts
}

// poundsOf returns how many pounds some parts have.
func poundsOf(h api.SaltHouse, parts []int) int {
	sum := 0
	for _, number := range parts {
		sum += h.Parts[number].Pounds
	}
	return sum
}

// allPounds returns how many pounds all parts have.
func allPounds(h api.SaltHouse) int {
	sum := 0
	for _, p := range h.Parts {
		sum += p.Pounds
	}
	return sum
}

// saltOf returns the salt of a barrel with some parts, pound by pound.
func saltOf(h api.SaltHouse, parts []int) int {
	if len(parts) == 0 {
		return 0
	}
	strong := 0
	for _, number := range parts {
		strong = max(strong, h.Kinds[h.Parts[number].Kind].Salt)
	}
	sum := h.Floor
	for tenths := poundsOf(h, parts) * strong; tenths > 0; tenths -= 10 {
		sum++
	}
	return sum
}

// daysOf returns after how many days a barrel with some parts keeps.
func daysOf(h api.SaltHouse, parts []int) int {
	days := 0
	for _, number := range parts {
		days = max(days, h.Kinds[h.Parts[number].Kind].Days)
	}
	return days
}

// isPacking reports whether no barrel is over if the parts are where a list says; those in the barrel -1 are left out.
func isPacking(h api.SaltHouse, list []int) bool {
	for barrel, size := range h.Barrels {
		parts := partsIn(list, barrel)
		if poundsOf(h, parts)+saltOf(h, parts) > size {
			return false
		}
	}
	return true
}

// packingsOf returns all packings; compared number by number, the first one comes first.
func packingsOf(h api.SaltHouse) [][]int {
	return slices.DeleteFunc(listsOf(len(h.Parts), 0, len(h.Barrels)), func(list []int) bool { return !isPacking(h, list) })
}

// salts returns the salt of all barrels of a packing together.
func salts(h api.SaltHouse, list []int) int {
	sum := 0
	for barrel := range h.Barrels {
		sum += saltOf(h, partsIn(list, barrel))
	}
	return sum
}

// usedIn returns how many barrels have parts.
func usedIn(list []int) int {
	return len(slices.Compact(slices.Sorted(slices.Values(list))))
}

// keepsBy returns how many pounds of a packing are in barrels that keep after at most so many days.
func keepsBy(h api.SaltHouse, list []int, day int) int {
	sum := 0
	for barrel := range h.Barrels {
		if parts := partsIn(list, barrel); daysOf(h, parts) <= day {
			sum += poundsOf(h, parts)
		}
	}
	return sum
}

// P8.2: of all choices of parts.
func TestAllSalts(t *testing.T) {
	for _, h := range houses(1, 500, 6, 4) {
		for choice := range 1 << len(h.Parts) {
			var list []int
			for number := range h.Parts {
				if choice>>number&1 == 1 {
					list = append(list, number)
				}
			}
			salted(t, h, saltOf(h, list), list...)
		}
	}
}

// P8.3 and P8.4: of all lists, also with barrels that there are not.
func TestAllLists(t *testing.T) {
	var found [2]int
	for _, h := range houses(2, 1500, 5, 3) {
		for _, list := range listsOf(len(h.Parts), -1, len(h.Barrels)+1) {
			is := isPacking(h, list) && !slices.Contains(list, -1) && !slices.Contains(list, len(h.Barrels))
			good(t, h, is, list...)
			if !is {
				found[0]++
				if _, _, _, e := salt.Barrel(h, list, 0); e != api.ErrArg {
					t.Fatalf("%v: Barrel of %v: %d", h, list, e)
				}
				continue
			}
			found[1]++
			var want []inBarrel
			for barrel := range h.Barrels {
				parts := partsIn(list, barrel)
				want = append(want, inBarrel{poundsOf(h, parts), saltOf(h, parts), daysOf(h, parts)})
			}
			barrels(t, h, list, want...)
		}
	}
	if slices.Min(found[:]) < 2000 {
		t.Errorf("too few lists of one kind: %v", found)
	}
}

// P8.5 to P8.7: by all packings.
func TestBestPackings(t *testing.T) {
	some, without, several, later, apart := 0, 0, 0, 0, 0
	for _, h := range append(houses(3, 1500, 6, 4), houses(4, 5000, 4, 3)...) {
		packs := packingsOf(h)
		if len(packs) == 0 {
			without++
			for _, got := range callAll(h, args{}) {
				if is := got.name == "Least" || got.name == "Pack" || got.name == "Fewest"; is && (got.e != api.ErrNone || !isZero(got.result)) {
					t.Fatalf("%v: %s = %v, %d, not ErrNone", h, got.name, got.result, got.e)
				}
			}
			continue
		}
		first, few := packs[0], len(h.Barrels)
		equal := 0
		for _, list := range packs {
			switch is, than := salts(h, list), salts(h, first); {
			case is < than:
				first, equal = list, 1
			case is == than:
				equal++
			}
			few = min(few, usedIn(list))
		}
		least(t, h, salts(h, first), first...)
		got, e := salt.Fewest(h)
		same(t, h, "Fewest", got, e, few)
		some++
		if equal > 1 {
			several++
		}
		if !slices.Equal(first, packs[0]) {
			later++
		}
		if usedIn(first) > few {
			apart++
		}
	}
	if some < 500 || without < 300 || several < 200 || later < 100 || apart < 50 {
		t.Errorf("too few houses of one kind: %d, %d, %d, %d, %d", some, without, several, later, apart)
	}
}

// P8.8 and P8.10: by all packings.
func TestBarrelsOfPackings(t *testing.T) {
	var found [2][2]int
	for _, h := range append(houses(5, 1000, 6, 4), houses(6, 3000, 4, 3)...) {
		packs := packingsOf(h)
		if len(packs) == 0 {
			_, e := salt.Buy(h)
			errors(t, h, args{}, noPacking(e))
			continue
		}
		for number := range h.Parts {
			var want []int
			for barrel := range h.Barrels {
				if slices.ContainsFunc(packs, func(list []int) bool { return list[number] == barrel }) {
					want = append(want, barrel)
					found[0][1]++
				} else {
					found[0][0]++
				}
			}
			where(t, h, number, want...)
		}
		var want []int
		for barrel := range h.Barrels {
			if slices.ContainsFunc(packs, func(list []int) bool { return !slices.Contains(list, barrel) }) {
				want = append(want, barrel)
				found[1][1]++
			} else {
				found[1][0]++
			}
		}
		got, e := salt.Spare(h)
		same(t, h, "Spare", got, e, want)
	}
	if slices.Min(found[0][:]) < 1000 || slices.Min(found[1][:]) < 400 {
		t.Errorf("too few barrels of one kind: %v", found)
	}
}

// P8.9: by all packings, for all days.
func TestEarlyOfPackings(t *testing.T) {
	some, parts := 0, 0
	for _, h := range append(houses(7, 500, 6, 4), houses(8, 3000, 4, 3)...) {
		packs := packingsOf(h)
		for day := range api.MaxSaltDays + 1 {
			want := 0
			for _, list := range packs {
				want = max(want, keepsBy(h, list, day))
			}
			got, e := salt.Early(h, day)
			if len(packs) == 0 {
				if got != 0 || e != api.ErrNone {
					t.Fatalf("%v: Early of %d = %d, %d, not ErrNone", h, day, got, e)
				}
				continue
			}
			same(t, h, "Early", got, e, want)
			if day < api.MaxSaltDays && want > 0 && want < allPounds(h) {
				parts++
			}
			if want > keepsBy(h, packs[0], day) {
				some++
			}
		}
	}
	if some < 200 || parts < 1000 {
		t.Errorf("too few days of one kind: %d, %d", some, parts)
	}
}

// mostBy returns the most pounds that can be laid down with at most each number of pounds of salt.
func mostBy(h api.SaltHouse) []int {
	most := make([]int, 300)
	for _, list := range listsOf(len(h.Parts), -1, len(h.Barrels)) {
		if isPacking(h, list) {
			much := salts(h, list)
			most[much] = max(most[much], allPounds(h)-poundsOf(h, partsIn(list, -1)))
		}
	}
	for much := range most[1:] {
		most[much+1] = max(most[much+1], most[much])
	}
	return most
}

// P8.11: by all lists in which some parts are left out, for all salts.
func TestStockOfLists(t *testing.T) {
	some, out := 0, 0
	for _, h := range append(houses(9, 100, 6, 4), houses(10, 1500, 4, 3)...) {
		most := mostBy(h)
		end := most[len(most)-1]
		last := slices.Index(most, end) // with more salt nothing changes
		for much, want := range most[:last+2] {
			stock(t, h, much, want)
			if want > 0 && want < end {
				some++
			}
		}
		stock(t, h, 299, end)
		stock(t, h, api.MaxSaltStock, end)
		if end < allPounds(h) {
			out++
		}
	}
	if some < 2000 || out < 100 {
		t.Errorf("too few salts, or houses, of one kind: %d, %d", some, out)
	}
}

// withBarrels returns a house with some barrels more.
func withBarrels(h api.SaltHouse, sizes ...int) api.SaltHouse {
	h.Barrels = append(slices.Clone(h.Barrels), sizes...)
	return h
}

// buyOf returns what there is to buy, tried with one size after the other.
func buyOf(h api.SaltHouse) (int, api.Errno) {
	if len(packingsOf(h)) > 0 {
		return 0, api.OK
	}
	if len(h.Barrels) == api.MaxSaltBarrels {
		return 0, api.ErrMany
	}
	for size := range api.MaxSaltSize + 1 {
		if len(packingsOf(withBarrels(h, size))) > 0 {
			return size, api.OK
		}
	}
	return 0, api.ErrNone
}

// P8.12: with one more barrel of one size after the other.
func TestBuyOfSizes(t *testing.T) {
	found := map[api.Errno]int{}
	small, large, nothing := 0, 0, 0
	for _, h := range append(houses(11, 50, 6, 4), houses(12, 4000, 4, 4)...) {
		want, e := buyOf(h)
		got, is := salt.Buy(h)
		if got != want || is != e {
			t.Fatalf("%v: Buy = %d, %d, not %d, %d", h, got, is, want, e)
		}
		found[e]++
		switch {
		case want > 50:
			large++
		case want > 0:
			small++
		case e == api.OK && len(packingsOf(h)) == 0:
			nothing++
		}
	}
	if small < 500 || large < 100 || nothing < 5 || found[api.ErrNone] < 50 || found[api.ErrMany] < 100 {
		t.Errorf("too few houses of one kind: %d, %d, %d, %v", small, large, nothing, found)
	}
}
