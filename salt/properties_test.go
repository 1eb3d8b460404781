package salt_test

import (
	"slices"
	"testing"

	"almadraba/api"
	"almadraba/salt"
)

// must returns a function that returns what was returned without an error.
func must[T any](t *testing.T, h api.SaltHouse) func(T, api.Errno) T {
	return func(result T, e api.Errno) T {
		t.Helper()
		if e != api.OK {
			t.Fatalf("%v: the error %d", h, e)
		}
		return result
	}
}

// may returns a function that returns what was returned, and another result if there was ErrNone or ErrMany.
func may[T any](t *testing.T, h api.SaltHouse, other T) func(T, api.Errno) T {
	return func(result T, e api.Errno) T {
		t.Helper()
		if e == api.ErrNone || e == api.ErrMany {
			return other
		}
		return must[T](t, h)(result, e)
	}
}

// nothing is more than there can be of anything.
const nothing = 9999

func leastOf(t *testing.T, h api.SaltHouse) int {
	t.Helper()
	return may(t, h, nothing)(salt.Least(h))
}

func fewestOf(t *testing.T, h api.SaltHouse) int {
	t.Helper()
	return may(t, h, nothing)(salt.Fewest(h))
}

func earlyOf(t *testing.T, h api.SaltHouse, day int) int {
	t.Helper()
	return may(t, h, -1)(salt.Early(h, day))
}

func stockOf(t *testing.T, h api.SaltHouse, much int) int {
	t.Helper()
	return must[int](t, h)(salt.Stock(h, much))
}

func boughtOf(t *testing.T, h api.SaltHouse) int {
	t.Helper()
	return may(t, h, nothing)(salt.Buy(h))
}

// packs returns all lists that are packings by Good.
func packs(t *testing.T, h api.SaltHouse) [][]int {
	t.Helper()
	var found [][]int
	for _, list := range listsOf(len(h.Parts), 0, len(h.Barrels)) {
		if must[bool](t, h)(salt.Good(h, list)) {
			found = append(found, list)
		}
	}
	return found
}

// isIn returns what is in a barrel of a packing, by Barrel.
func isIn(t *testing.T, h api.SaltHouse, pack []int, barrel int) inBarrel {
	t.Helper()
	pounds, its, days, e := salt.Barrel(h, pack, barrel)
	if e != api.OK {
		t.Fatalf("%v: Barrel of %v, %d: %d", h, pack, barrel, e)
	}
	return inBarrel{pounds, its, days}
}

// allSalt returns the salt of a packing, by Barrel.
func allSalt(t *testing.T, h api.SaltHouse, pack []int) int {
	t.Helper()
	sum := 0
	for barrel := range h.Barrels {
		sum += isIn(t, h, pack, barrel).salt
	}
	return sum
}

// P8.13.
func TestEachPacking(t *testing.T) {
	many := 0
	for _, h := range houses(21, 700, 5, 4) {
		all := packs(t, h)
		if len(all) == 0 {
			continue
		}
		many += len(all)
		much, few := leastOf(t, h), fewestOf(t, h)
		spare := must[[]int](t, h)(salt.Spare(h))
		var wheres [][]int
		for number := range h.Parts {
			wheres = append(wheres, must[[]int](t, h)(salt.Where(h, number)))
		}
		first := must[[]int](t, h)(salt.Pack(h))
		if !must[bool](t, h)(salt.Good(h, first)) || allSalt(t, h, first) != much {
			t.Fatalf("%v: Pack = %v, Least = %d", h, first, much)
		}
		for _, list := range all {
			if allSalt(t, h, list) < much || usedIn(list) < few {
				t.Fatalf("%v: Least = %d, Fewest = %d, but for %v", h, much, few, list)
			}
			for number, barrel := range list {
				if !slices.Contains(wheres[number], barrel) {
					t.Fatalf("%v: Where of %d = %v, but for %v", h, number, wheres[number], list)
				}
			}
			for barrel := range h.Barrels {
				if !slices.Contains(list, barrel) && !slices.Contains(spare, barrel) {
					t.Fatalf("%v: Spare = %v, but for %v", h, spare, list)
				}
			}
		}
	}
	if many < 3000 {
		t.Errorf("too few packings: %d", many)
	}
}

// P8.13: what keeps by a day.
func TestNoMoreKeeps(t *testing.T) {
	less := 0
	for _, h := range houses(22, 2000, 5, 3) {
		for _, day := range []int{0, 2, 3, 6, 19, 20} {
			most := earlyOf(t, h, day)
			for _, list := range packs(t, h) {
				keeps := 0
				for barrel := range h.Barrels {
					if is := isIn(t, h, list, barrel); is.days <= day {
						keeps += is.pounds
					}
				}
				if keeps > most {
					t.Fatalf("%v: Early of %d = %d, with %v there are %d", h, day, most, list, keeps)
				}
				if keeps < most {
					less++
				}
			}
		}
	}
	if less < 1000 {
		t.Errorf("too few packings: %d", less)
	}
}

// roomier returns houses with a greater barrel, and with one more.
func (d *dice) roomier(h api.SaltHouse) []api.SaltHouse {
	var others []api.SaltHouse
	for barrel, size := range h.Barrels {
		other := withBarrels(h)
		other.Barrels[barrel] += d.below(min(api.MaxSaltSize-size, 9) + 1)
		others = append(others, other)
	}
	if len(h.Barrels) < api.MaxSaltBarrels {
		others = append(others, withBarrels(h, d.below(api.MaxSaltSize+1)))
	}
	return others
}

// P8.14.
func TestMoreRoom(t *testing.T) {
	d := dice(23)
	var better [4]int
	for _, h := range houses(23, 800, 4, 4) {
		all := packs(t, h)
		day, much := d.below(api.MaxSaltDays+1), d.below(40)
		for _, other := range d.roomier(h) {
			for _, list := range all {
				good(t, other, true, list...)
			}
			is := []int{leastOf(t, h), fewestOf(t, h), -earlyOf(t, h, day), -stockOf(t, h, much)}
			than := []int{leastOf(t, other), fewestOf(t, other), -earlyOf(t, other, day), -stockOf(t, other, much)}
			for i := range is {
				if than[i] > is[i] {
					t.Fatalf("%v: %v; %v: %v, by %d, with %d", h, is, other, than, day, much)
				}
				if than[i] < is[i] {
					better[i]++
				}
			}
		}
	}
	if slices.Min(better[:]) < 30 {
		t.Errorf("too few houses: %v", better)
	}
}

// P8.15.
func TestOnePartLess(t *testing.T) {
	var better [3]int
	for _, h := range houses(24, 800, 5, 4) {
		is := []int{leastOf(t, h), fewestOf(t, h), boughtOf(t, h)}
		for number := range h.Parts {
			other := h
			other.Parts = slices.Delete(slices.Clone(h.Parts), number, number+1)
			for _, list := range packs(t, h) {
				good(t, other, true, slices.Delete(list, number, number+1)...)
			}
			than := []int{leastOf(t, other), fewestOf(t, other), boughtOf(t, other)}
			for i := range is {
				if than[i] > is[i] {
					t.Fatalf("%v: %v; %v: %v", h, is, other, than)
				}
				if than[i] < is[i] {
					better[i]++
				}
			}
		}
	}
	if slices.Min(better[:]) < 100 {
		t.Errorf("too few houses: %v", better)
	}
}

// partsOf returns the parts of a choice.
func partsOf(choice int) []int {
	var list []int
	for number := range api.MaxSaltParts {
		if choice>>number&1 == 1 {
			list = append(list, number)
		}
	}
	return list
}

// P8.16.
func TestTogether(t *testing.T) {
	more, less := 0, 0
	for _, h := range houses(25, 800, 6, 0) {
		much := func(choice int) int { return must[int](t, h)(salt.Salt(h, partsOf(choice))) }
		isOther := func(number int) bool { return h.Parts[number].Kind != h.Parts[0].Kind }
		for all := range 1 << len(h.Parts) {
			alike := all&1 == 1 && !slices.ContainsFunc(partsOf(all), isOther)
			for some := range all + 1 {
				if some&all != some {
					continue
				}
				if much(some) > much(all) {
					t.Fatalf("%v: Salt of %v = %d, of %v = %d", h, partsOf(some), much(some), partsOf(all), much(all))
				}
				if much(some) < much(all) {
					more++
				}
				if apart := much(some) + much(all&^some); alike && apart < much(all) {
					t.Fatalf("%v: Salt of %v = %d, apart %d", h, partsOf(all), much(all), apart)
				} else if alike && apart > much(all) {
					less++
				}
			}
		}
	}
	if more < 5000 || less < 500 {
		t.Errorf("too few parts of one kind: %d, %d", more, less)
	}
}

// inOrder returns a list in another order.
func inOrder[T any](list []T, order []int) []T {
	var other []T
	for _, i := range order {
		other = append(other, list[i])
	}
	return other
}

// P8.17.
func TestAnyOrder(t *testing.T) {
	d := dice(26)
	for _, h := range houses(26, 1000, 5, 4) {
		others := []api.SaltHouse{h, h, h}
		others[0].Parts = inOrder(h.Parts, d.shuffled(len(h.Parts)))
		others[1].Barrels = inOrder(h.Barrels, d.shuffled(len(h.Barrels)))
		others[2].Parts, others[2].Barrels = others[0].Parts, others[1].Barrels
		day, much := d.below(api.MaxSaltDays+1), d.below(60)
		for _, other := range others {
			is := []int{leastOf(t, h), fewestOf(t, h), earlyOf(t, h, day), stockOf(t, h, much), boughtOf(t, h)}
			than := []int{leastOf(t, other), fewestOf(t, other), earlyOf(t, other, day), stockOf(t, other, much), boughtOf(t, other)}
			if !slices.Equal(is, than) {
				t.Fatalf("%v: %v; %v: %v, by %d, with %d", h, is, other, than, day, much)
			}
		}
	}
}

// P8.18.
func TestMoreSalt(t *testing.T) {
	more, all := 0, 0
	for _, h := range houses(27, 400, 5, 4) {
		least, before := leastOf(t, h), 0
		free := slices.ContainsFunc(h.Parts, func(p api.SaltPart) bool { return p.Pounds == 0 })
		for much := range 150 {
			laid := stockOf(t, h, much)
			if laid < before || laid > allPounds(h) {
				t.Fatalf("%v: Stock of %d = %d, of one pound less %d", h, much, laid, before)
			}
			if much >= least && laid != allPounds(h) || much < least && laid == allPounds(h) && !free {
				t.Fatalf("%v: Stock of %d = %d, Least = %d", h, much, laid, least)
			}
			if laid > before {
				more++
			}
			before = laid
		}
		if least < nothing {
			all++
			stock(t, h, api.MaxSaltStock, allPounds(h))
		}
	}
	if more < 500 || all < 200 {
		t.Errorf("too few salts, or houses: %d, %d", more, all)
	}
}

// P8.19.
func TestWhatIsBought(t *testing.T) {
	some := 0
	for _, h := range houses(28, 1000, 5, 4) {
		size, e := salt.Buy(h)
		if e != api.OK || len(h.Barrels) == api.MaxSaltBarrels {
			continue
		}
		some++
		if leastOf(t, withBarrels(h, size)) == nothing {
			t.Fatalf("%v: Buy = %d, and there is no packing", h, size)
		}
		for other := range size {
			if leastOf(t, withBarrels(h, other)) < nothing {
				t.Fatalf("%v: Buy = %d, but there is a packing with %d", h, size, other)
			}
		}
	}
	if some < 500 {
		t.Errorf("too few houses: %d", some)
	}
}

// P8.20.
func TestLater(t *testing.T) {
	later := 0
	for _, h := range houses(29, 2000, 5, 4) {
		before := -1
		for day := range api.MaxSaltDays + 1 {
			is := earlyOf(t, h, day)
			if is < before {
				t.Fatalf("%v: Early of %d = %d, of the day before %d", h, day, is, before)
			}
			if day > 0 && is > before {
				later++
			}
			before = is
		}
		if before >= 0 && before != allPounds(h) {
			t.Fatalf("%v: Early of the last day = %d", h, before)
		}
	}
	if later < 300 {
		t.Errorf("too few days: %d", later)
	}
}

// P1: with as much of everything as there can be, whether there are packings or none.
func TestLargest(t *testing.T) {
	h := largest()
	for i := range h.Parts {
		h.Parts[i].Pounds = 0
	}
	least(t, h, 9, 0, 0, 0, 0, 0, 0)
	if all := packs(t, h); len(all) != 4096 {
		t.Errorf("%d packings", len(all))
	}
	h = tooMuch()
	h.Barrels = slices.Repeat([]int{99}, 4)
	h.Parts[0].Pounds = 0
	errors(t, h, args{}, noPacking(api.ErrMany))
	stock(t, h, api.MaxSaltStock, 160)
}
