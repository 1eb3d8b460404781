package salt_test

import (
	"math"
	"reflect"
	"slices"
	"testing"

	"almadraba/api"
	"almadraba/salt"
)

func kind(salt, days int) api.SaltKind { return api.SaltKind{Salt: salt, Days: days} }

func part(kind, pounds int) api.SaltPart { return api.SaltPart{Kind: kind, Pounds: pounds} }

// pieces is parts of the kind 0 that have so many pounds.
func pieces(pounds ...int) []api.SaltPart {
	var list []api.SaltPart
	for _, many := range pounds {
		list = append(list, part(0, many))
	}
	return list
}

// plain is a house with one kind, the Floor 0, parts that have so many pounds, and some barrels.
func plain(k api.SaltKind, pounds []int, barrels ...int) api.SaltHouse {
	return api.SaltHouse{Kinds: []api.SaltKind{k}, Parts: pieces(pounds...), Barrels: barrels}
}

// houseS is S of the chapter's examples.
func houseS() api.SaltHouse {
	return api.SaltHouse{
		Kinds:   []api.SaltKind{kind(3, 10), kind(5, 4)},
		Floor:   2,
		Parts:   []api.SaltPart{part(0, 10), part(0, 15), part(1, 8)},
		Barrels: []int{40, 20},
	}
}

// houseT is T of the chapter's examples.
func houseT() api.SaltHouse { return houseWith(func(h *api.SaltHouse) { h.Barrels[1] = 13 }) }

// houseWith is S with something changed.
func houseWith(change func(h *api.SaltHouse)) api.SaltHouse {
	h := houseS()
	change(&h)
	return h
}

// full is a house without a packing, with as many barrels as there can be.
func full() api.SaltHouse {
	return houseWith(func(h *api.SaltHouse) { h.Barrels = []int{16, 16, 12, 12} })
}

// tooMuch is a house without a packing, with barrels of any sizes.
func tooMuch() api.SaltHouse {
	h := plain(kind(9, 3), []int{40, 40, 40, 40, 40, 40}, 99, 99, 9)
	h.Floor = 9
	return h
}

// largest is a house with as much of everything as there can be, but for the pounds: there is a packing.
func largest() api.SaltHouse {
	return api.SaltHouse{
		Kinds: slices.Repeat([]api.SaltKind{kind(9, 20)}, 3), Floor: 9, Parts: slices.Repeat([]api.SaltPart{part(2, 23)}, 6),
		Barrels: slices.Repeat([]int{99}, 4),
	}
}

// args is one of each kind of argument beside a house.
type args struct {
	parts, pack             []int
	part, barrel, day, salt int
}

// argsS are arguments that fit S.
func argsS() args {
	return args{parts: []int{0, 2}, pack: []int{0, 0, 1}, part: 2, barrel: 1, day: 4, salt: 9}
}

// inBarrel is what Barrel returns.
type inBarrel struct{ pounds, salt, days int }

// answer is what a call returned.
type answer struct {
	name   string
	result any
	e      api.Errno
}

// callAll calls each function but Check.
func callAll(h api.SaltHouse, a args) []answer {
	much, e0 := salt.Salt(h, a.parts)
	good, e1 := salt.Good(h, a.pack)
	pounds, its, days, e2 := salt.Barrel(h, a.pack, a.barrel)
	least, e3 := salt.Least(h)
	pack, e4 := salt.Pack(h)
	fewest, e5 := salt.Fewest(h)
	where, e6 := salt.Where(h, a.part)
	early, e7 := salt.Early(h, a.day)
	spare, e8 := salt.Spare(h)
	stock, e9 := salt.Stock(h, a.salt)
	buy, e10 := salt.Buy(h)
	return []answer{
		{"Salt", much, e0}, {"Good", good, e1}, {"Barrel", inBarrel{pounds, its, days}, e2}, {"Least", least, e3}, {"Pack", pack, e4},
		{"Fewest", fewest, e5}, {"Where", where, e6}, {"Early", early, e7}, {"Spare", spare, e8}, {"Stock", stock, e9}, {"Buy", buy, e10},
	}
}

// isZero reports whether a result is a zero value, or an empty list.
func isZero(result any) bool {
	v := reflect.ValueOf(result)
	return v.IsZero() || v.Kind() == reflect.Slice && v.Len() == 0
}

// errors checks that each call by a name returns nothing but its error, and that all others return none.
func errors(t *testing.T, h api.SaltHouse, a args, want map[string]api.Errno) {
	t.Helper()
	for _, got := range callAll(h, a) {
		if got.e != want[got.name] || got.e != api.OK && !isZero(got.result) {
			t.Errorf("%v: %s with %v = %v, %d, not the error %d", h, got.name, a, got.result, got.e, want[got.name])
		}
	}
}

// all has an error for each function but Check.
func all(e api.Errno) map[string]api.Errno {
	want := map[string]api.Errno{}
	for _, got := range callAll(houseS(), argsS()) {
		want[got.name] = e
	}
	return want
}

// noPacking has the errors of all functions if there is no packing, the list is none, and Buy returns one of its own.
func noPacking(buy api.Errno) map[string]api.Errno {
	want := map[string]api.Errno{"Barrel": api.ErrArg, "Buy": buy}
	for _, name := range []string{"Least", "Pack", "Fewest", "Where", "Early", "Spare"} {
		want[name] = api.ErrNone
	}
	return want
}

// except has another error for some functions.
func except(want map[string]api.Errno, e api.Errno, names ...string) map[string]api.Errno {
	for _, name := range names {
		want[name] = e
	}
	return want
}

// of has an error for some functions.
func of(e api.Errno, names ...string) map[string]api.Errno {
	return except(map[string]api.Errno{}, e, names...)
}

// same checks what was returned.
func same[T any](t *testing.T, h api.SaltHouse, name string, got T, e api.Errno, want T) {
	t.Helper()
	if e != api.OK || !reflect.DeepEqual(got, want) && !(isZero(got) && isZero(want)) {
		t.Fatalf("%v: %s = %v, %d, not %v", h, name, got, e, want)
	}
}

// salted checks what Salt returns.
func salted(t *testing.T, h api.SaltHouse, want int, parts ...int) {
	t.Helper()
	got, e := salt.Salt(h, parts)
	same(t, h, "Salt", got, e, want)
}

// good checks what Good returns.
func good(t *testing.T, h api.SaltHouse, want bool, pack ...int) {
	t.Helper()
	got, e := salt.Good(h, pack)
	if got != want || e != api.OK {
		t.Fatalf("%v: Good of %v = %t, %d", h, pack, got, e)
	}
}

// barrels checks what Barrel returns of all barrels, one after the other.
func barrels(t *testing.T, h api.SaltHouse, pack []int, want ...inBarrel) {
	t.Helper()
	for barrel, in := range want {
		pounds, its, days, e := salt.Barrel(h, pack, barrel)
		same(t, h, "Barrel", inBarrel{pounds, its, days}, e, in)
	}
}

// least checks what Least and Pack return.
func least(t *testing.T, h api.SaltHouse, want int, pack ...int) {
	t.Helper()
	got, e := salt.Least(h)
	same(t, h, "Least", got, e, want)
	list, e := salt.Pack(h)
	same(t, h, "Pack", list, e, pack)
}

// fewest checks what Fewest and Spare return.
func fewest(t *testing.T, h api.SaltHouse, want int, spare ...int) {
	t.Helper()
	got, e := salt.Fewest(h)
	same(t, h, "Fewest", got, e, want)
	list, e := salt.Spare(h)
	same(t, h, "Spare", list, e, spare)
}

// where checks what Where returns.
func where(t *testing.T, h api.SaltHouse, part int, want ...int) {
	t.Helper()
	got, e := salt.Where(h, part)
	same(t, h, "Where", got, e, want)
}

// early checks what Early returns.
func early(t *testing.T, h api.SaltHouse, day, want int) {
	t.Helper()
	got, e := salt.Early(h, day)
	same(t, h, "Early", got, e, want)
}

// stock checks what Stock returns.
func stock(t *testing.T, h api.SaltHouse, much, want int) {
	t.Helper()
	got, e := salt.Stock(h, much)
	same(t, h, "Stock", got, e, want)
}

// buy checks what Buy returns.
func buy(t *testing.T, h api.SaltHouse, want int) {
	t.Helper()
	got, e := salt.Buy(h)
	same(t, h, "Buy", got, e, want)
}

// noBuy checks that Buy returns nothing but an error.
func noBuy(t *testing.T, h api.SaltHouse, want api.Errno) {
	t.Helper()
	got, e := salt.Buy(h)
	if got != 0 || e != want {
		t.Fatalf("%v: Buy = %d, %d, not the error %d", h, got, e, want)
	}
}

// The examples of the chapter, and the one of the document.
func TestExamples(t *testing.T) {
	s := houseS()
	salted(t, s, 5, 0)
	salted(t, s, 7, 1)
	salted(t, s, 10, 0, 1)
	salted(t, s, 6, 2)
	salted(t, s, 14, 1, 2)
	good(t, s, true, 0, 0, 1)
	good(t, s, true, 1, 0, 0)
	good(t, s, false, 0, 0, 0)
	barrels(t, s, []int{0, 0, 1}, inBarrel{25, 10, 10}, inBarrel{8, 6, 4})
	least(t, s, 16, 0, 0, 1)
	fewest(t, s, 2)
	where(t, s, 0, 0, 1)
	where(t, s, 1, 0)
	early(t, s, 4, 8)
	early(t, s, 9, 8)
	early(t, s, 10, 33)
	for much, want := range map[int]int{4: 0, 5: 10, 9: 15, 10: 25, 16: 33} {
		stock(t, s, much, want)
	}
	buy(t, s, 0)
	buy(t, houseT(), 14)
	errors(t, houseT(), argsS(), noPacking(api.OK))
}

// beyond has numbers that are not from one to another one.
func beyond(low, high int) []int {
	return []int{low - 1, high + 1, low - 7, high + 7, math.MinInt, math.MaxInt}
}

// wrongParts has houses that are not valid for their kinds or parts, each for one reason.
func wrongParts() []api.SaltHouse {
	var houses []api.SaltHouse
	add := func(change func(h *api.SaltHouse)) { houses = append(houses, houseWith(change)) }
	for number := range houseS().Kinds {
		for _, n := range beyond(0, api.MaxSaltStrong) {
			add(func(h *api.SaltHouse) { h.Kinds[number].Salt = n })
		}
		for _, n := range beyond(0, api.MaxSaltDays) {
			add(func(h *api.SaltHouse) { h.Kinds[number].Days = n })
		}
	}
	for number := range houseS().Parts {
		for _, n := range beyond(0, len(houseS().Kinds)-1) {
			add(func(h *api.SaltHouse) { h.Parts[number].Kind = n })
		}
		for _, n := range beyond(0, api.MaxSaltPounds) {
			add(func(h *api.SaltHouse) { h.Parts[number].Pounds = n })
		}
	}
	add(func(h *api.SaltHouse) { h.Kinds = nil })
	add(func(h *api.SaltHouse) { h.Kinds = h.Kinds[:1] })
	return houses
}

// invalid has houses that are not valid, each for one reason.
func invalid() []api.SaltHouse {
	houses := wrongParts()
	add := func(change func(h *api.SaltHouse)) { houses = append(houses, houseWith(change)) }
	for _, n := range beyond(0, api.MaxSaltStrong) {
		add(func(h *api.SaltHouse) { h.Floor = n })
	}
	for number := range houseS().Barrels {
		for _, n := range beyond(0, api.MaxSaltSize) {
			add(func(h *api.SaltHouse) { h.Barrels[number] = n })
		}
	}
	for _, more := range []int{1, 2, 1000} {
		add(func(h *api.SaltHouse) { h.Kinds = slices.Repeat(h.Kinds[:1], api.MaxSaltKinds+more); h.Parts = nil })
		add(func(h *api.SaltHouse) { h.Parts = slices.Repeat(h.Parts[:1], api.MaxSaltParts+more) })
		add(func(h *api.SaltHouse) { h.Barrels = slices.Repeat(h.Barrels[:1], api.MaxSaltBarrels+more) })
	}
	return houses
}

// P8.1, and ErrSalt of all functions before any other error.
func TestInvalidHouses(t *testing.T) {
	wrong := args{parts: []int{1, 0}, pack: []int{9}, part: -1, barrel: -1, day: -1, salt: -1}
	for _, h := range invalid() {
		if e := salt.Check(h); e != api.ErrSalt {
			t.Errorf("Check of %v: %d", h, e)
		}
		errors(t, h, argsS(), all(api.ErrSalt))
		errors(t, h, wrong, all(api.ErrSalt))
		errors(t, h, args{}, all(api.ErrSalt))
	}
}

// P8.1: what is just valid.
func TestValidHouses(t *testing.T) {
	for i, h := range []api.SaltHouse{
		{}, {Kinds: []api.SaltKind{}, Parts: []api.SaltPart{}, Barrels: []int{}}, houseS(), houseT(), full(), tooMuch(), largest(),
		{Floor: 9}, {Kinds: slices.Repeat([]api.SaltKind{kind(0, 0)}, 3)}, {Kinds: slices.Repeat([]api.SaltKind{kind(9, 20)}, 3)},
		{Barrels: []int{0}}, {Barrels: []int{99, 0, 99, 0}}, plain(kind(9, 0), []int{0}), plain(kind(0, 20), []int{40}, 0),
		houseWith(func(h *api.SaltHouse) { h.Parts = nil }), houseWith(func(h *api.SaltHouse) { h.Barrels = nil }),
		houseWith(func(h *api.SaltHouse) { h.Kinds = append(h.Kinds, kind(1, 1)); h.Parts[1].Kind = 2 }),
	} {
		if e := salt.Check(h); e != api.OK {
			t.Errorf("%d: Check of %v: %d", i, h, e)
		}
	}
}

// P8.2: the Floor and the greatest Salt, rounded up once; a part without pounds is one, too, and the size of no barrel matters.
func TestSalt(t *testing.T) {
	h := api.SaltHouse{
		Kinds: []api.SaltKind{kind(3, 1), kind(7, 2), kind(0, 3)}, Floor: 4,
		Parts: []api.SaltPart{part(0, 11), part(0, 19), part(1, 1), part(1, 0), part(2, 40), part(2, 0)},
	}
	for _, x := range []struct {
		want  int
		parts []int
	}{
		{0, nil}, {8, []int{0}}, {10, []int{1}}, {13, []int{0, 1}}, {5, []int{2}}, {4, []int{3}}, {4, []int{4}}, {4, []int{5}}, {4, []int{3, 5}},
		{13, []int{0, 2}}, {12, []int{0, 3}}, {20, []int{0, 4}}, {26, []int{0, 1, 2}}, {25, []int{0, 1, 3}}, {33, []int{2, 4}},
		{32, []int{3, 4}}, {54, []int{0, 1, 2, 3, 4, 5}}, {25, []int{0, 1, 4}}, {4, []int{4, 5}}, {8, []int{0, 5}},
	} {
		salted(t, h, x.want, x.parts...)
		h.Barrels = []int{0, 0, 0, 0}
		salted(t, h, x.want, x.parts...)
		h.Floor = 0
		if len(x.parts) > 0 {
			x.want -= 4
		}
		salted(t, h, x.want, x.parts...)
		h.Floor, h.Barrels = 4, nil
	}
	for pounds := range 41 {
		for strong := range 10 {
			h := plain(kind(strong, 0), []int{pounds, pounds})
			salted(t, h, int(math.Ceil(float64(pounds*strong)/10)), 1)
			salted(t, h, int(math.Ceil(float64(2*pounds*strong)/10)), 0, 1)
		}
	}
	salted(t, tooMuch(), 225, 0, 1, 2, 3, 4, 5)
}

// P8.2: ErrArg for lists that are not parts, strictly ascending, also if there is no packing.
func TestWrongParts(t *testing.T) {
	for _, list := range [][]int{
		{-1}, {3}, {math.MinInt}, {math.MaxInt}, {0, 0}, {2, 2}, {1, 0}, {2, 1}, {0, 2, 1}, {0, 1, 1}, {0, 1, 2, 3}, {0, 1, 2, 2}, {-1, 0}, {0, -1},
		{0, math.MaxInt}, {math.MinInt, 0}, make([]int, 1000),
	} {
		a := argsS()
		a.parts = list
		errors(t, houseS(), a, of(api.ErrArg, "Salt"))
		errors(t, houseT(), a, except(noPacking(api.OK), api.ErrArg, "Salt"))
	}
	for _, list := range [][]int{{0}, {-1}} {
		errors(t, api.SaltHouse{Barrels: []int{9}}, args{parts: list}, of(api.ErrArg, "Salt", "Where"))
	}
}

// wrongPacks has lists that are not packings of S, each for one reason.
func wrongPacks() [][]int {
	return [][]int{
		nil, {0}, {0, 0}, {0, 0, 1, 0}, {0, 0, 1, 2}, {0, 0, 2}, {0, 2, 1}, {2, 0, 1}, {0, 0, -1}, {-1, 0, 1}, {0, 0, math.MaxInt}, {math.MinInt, 0, 1},
		{0, 0, 0}, {0, 1, 1}, {0, 1, 0}, {1, 1, 0}, {1, 0, 1}, {1, 1, 1}, make([]int, 1000), {1, 1, 1 << 62}, {-1 << 63, math.MaxInt, math.MaxInt},
	}
}

// P8.3 and P8.4: lists of any numbers.
func TestWrongPacks(t *testing.T) {
	for _, list := range wrongPacks() {
		good(t, houseS(), false, list...)
		for _, barrel := range []int{0, 1, -1, 2} {
			a := argsS()
			a.pack, a.barrel = list, barrel
			errors(t, houseS(), a, of(api.ErrArg, "Barrel"))
		}
	}
	for _, list := range [][]int{{0, 0, 1}, {1, 0, 0}} {
		good(t, houseS(), true, list...)
		for _, barrel := range beyond(0, 1) {
			a := argsS()
			a.pack, a.barrel = list, barrel
			errors(t, houseS(), a, of(api.ErrArg, "Barrel"))
		}
	}
	good(t, api.SaltHouse{}, true)
	good(t, api.SaltHouse{}, false, 0)
	good(t, api.SaltHouse{Barrels: []int{0}}, true)
	good(t, api.SaltHouse{Barrels: []int{0}}, false, 0)
	good(t, plain(kind(0, 0), []int{0}), false)
	good(t, plain(kind(0, 0), []int{0}), false, 0)
}

// P8.3: a barrel is over by parts and salt together; one that is just full is not.
func TestGood(t *testing.T) {
	h := plain(kind(5, 0), []int{20, 7}, 30, 11)
	good(t, h, true, 0, 1)
	h.Barrels[0] = 29
	good(t, h, false, 0, 1)
	h.Barrels = []int{30, 10}
	good(t, h, false, 0, 1)
	h.Barrels = []int{41, 0}
	good(t, h, true, 0, 0)
	h.Barrels[0] = 40
	good(t, h, false, 0, 0)
	h = plain(kind(9, 0), []int{0, 0}, 0, 0)
	good(t, h, true, 0, 1)
	good(t, h, true, 1, 1)
	h.Floor = 1
	good(t, h, false, 0, 1)
	h.Barrels = []int{1, 0}
	good(t, h, true, 0, 0)
	good(t, h, false, 0, 1)
}

// P8.4: the greatest Days of all parts, and nothing without parts.
func TestBarrel(t *testing.T) {
	h := api.SaltHouse{
		Kinds: []api.SaltKind{kind(4, 7), kind(2, 9), kind(6, 0)}, Floor: 3,
		Parts: []api.SaltPart{part(0, 10), part(1, 12), part(2, 5), part(1, 0)}, Barrels: []int{50, 99, 50, 0},
	}
	barrels(t, h, []int{0, 0, 0, 0}, inBarrel{27, 20, 9}, inBarrel{}, inBarrel{}, inBarrel{})
	barrels(t, h, []int{0, 1, 2, 2}, inBarrel{10, 7, 7}, inBarrel{12, 6, 9}, inBarrel{5, 6, 9}, inBarrel{})
	barrels(t, h, []int{2, 0, 2, 1}, inBarrel{12, 6, 9}, inBarrel{0, 3, 9}, inBarrel{15, 12, 7}, inBarrel{})
	barrels(t, h, []int{1, 1, 2, 1}, inBarrel{}, inBarrel{22, 12, 9}, inBarrel{5, 6, 0}, inBarrel{})
	h.Floor, h.Kinds[0].Salt = 0, 0
	barrels(t, h, []int{1, 1, 2, 3}, inBarrel{}, inBarrel{22, 5, 9}, inBarrel{5, 3, 0}, inBarrel{0, 0, 9})
	barrels(t, api.SaltHouse{Floor: 9, Barrels: []int{0, 99}}, nil, inBarrel{}, inBarrel{})
}

// P8.5 and P8.6: the least salt is not always in the fewest barrels, and of several packings the first one counts.
func TestLeast(t *testing.T) {
	h := plain(kind(2, 0), []int{10, 10}, 40, 40)
	least(t, h, 4, 0, 0)
	h.Floor = 1
	least(t, h, 5, 0, 0)
	h.Barrels[0] = 23
	least(t, h, 5, 1, 1)
	h.Barrels[1] = 24
	least(t, h, 6, 0, 1)
	h = api.SaltHouse{Kinds: []api.SaltKind{kind(9, 0), kind(0, 0)}, Parts: []api.SaltPart{part(1, 40), part(0, 10), part(1, 0)}, Barrels: []int{99, 99}}
	least(t, h, 9, 0, 1, 0) // apart there is less salt than together
	fewest(t, h, 1, 0, 1)
	h.Floor = 9
	least(t, h, 27, 0, 1, 0)
	h.Parts[0].Pounds = 10
	least(t, h, 27, 0, 0, 0)
	h.Parts[0].Pounds = 11
	least(t, h, 27, 0, 1, 0)
	h.Barrels = []int{28, 30, 10}
	least(t, h, 27, 0, 1, 0)
	least(t, plain(kind(1, 0), []int{5, 5, 5}, 99, 99), 2, 0, 0, 0)
	least(t, plain(kind(1, 0), []int{6, 5, 5}, 13, 18, 6), 2, 0, 1, 1)
	least(t, plain(kind(0, 0), []int{9, 9, 9}, 9, 9, 9), 0, 0, 1, 2)
	least(t, plain(kind(0, 0), []int{8, 9, 7}, 7, 9, 9), 0, 1, 2, 0)
	least(t, api.SaltHouse{Floor: 9, Barrels: []int{99}}, 0)
	least(t, largest(), 153, 0, 0, 1, 1, 2, 2)
}

// P8.7 and P8.10: also a barrel that must have a part with no pounds has one.
func TestFewest(t *testing.T) {
	h := plain(kind(0, 0), []int{10, 10, 10}, 20, 10, 30)
	fewest(t, h, 1, 0, 1, 2)
	h.Barrels[2] = 29
	fewest(t, h, 2, 0, 1, 2)
	h.Barrels[1] = 9
	fewest(t, h, 2, 1)
	h.Barrels = []int{19, 19, 19, 9}
	fewest(t, h, 3, 3)
	h.Barrels = h.Barrels[:3]
	fewest(t, h, 3)
	h = plain(kind(0, 0), []int{0, 0}, 0, 0)
	fewest(t, h, 1, 0, 1)
	h.Floor, h.Barrels[1] = 1, 1
	fewest(t, h, 1, 0)
	fewest(t, api.SaltHouse{Floor: 9, Barrels: []int{0, 5, 99}}, 0, 0, 1, 2)
	fewest(t, api.SaltHouse{}, 0)
	fewest(t, largest(), 3, 0, 1, 2, 3)
	h = plain(kind(9, 0), []int{0, 30}, 30, 57)
	fewest(t, h, 1, 0)
	where(t, h, 0, 0, 1)
	where(t, h, 1, 1)
}

// P8.8: a barrel can be too small for a part, or for all that would be in it then.
func TestWhere(t *testing.T) {
	h := plain(kind(0, 0), []int{10, 20, 5}, 10, 15, 25)
	where(t, h, 0, 0, 1)
	where(t, h, 1, 2)
	where(t, h, 2, 0, 1, 2)
	h.Barrels[2] = 24
	where(t, h, 2, 0, 1)
	h.Barrels = []int{0, 9, 35}
	where(t, h, 0, 2)
	where(t, h, 2, 1, 2)
	h = api.SaltHouse{Kinds: []api.SaltKind{kind(0, 0), kind(5, 0)}, Parts: []api.SaltPart{part(0, 20), part(1, 10)}, Barrels: []int{44, 14, 20}}
	where(t, h, 0, 0, 2) // with the other part in one barrel there would be 45 pounds
	where(t, h, 1, 0, 2)
	h.Barrels = h.Barrels[:2]
	errors(t, h, args{}, except(noPacking(api.OK), api.ErrArg, "Barrel"))
	h.Barrels[1] = 15
	where(t, h, 0, 0)
	where(t, h, 1, 1)
}

// ErrArg for parts and days that there are not, before ErrNone.
func TestWrongPartsAndDays(t *testing.T) {
	for _, n := range beyond(0, 2) {
		a := argsS()
		a.part = n
		errors(t, houseS(), a, of(api.ErrArg, "Where"))
		errors(t, houseT(), a, except(noPacking(api.OK), api.ErrArg, "Where"))
	}
	for _, n := range beyond(0, api.MaxSaltDays) {
		a := argsS()
		a.day = n
		errors(t, houseS(), a, of(api.ErrArg, "Early"))
		errors(t, houseT(), a, except(noPacking(api.OK), api.ErrArg, "Early"))
	}
	for _, n := range beyond(0, api.MaxSaltStock) {
		a := argsS()
		a.salt = n
		errors(t, houseS(), a, of(api.ErrArg, "Stock"))
		errors(t, houseT(), a, except(noPacking(api.OK), api.ErrArg, "Stock"))
	}
	for _, n := range []int{0, api.MaxSaltDays} {
		a := argsS()
		a.day = n
		errors(t, houseS(), a, nil)
	}
	errors(t, api.SaltHouse{}, args{}, of(api.ErrArg, "Where", "Barrel"))
}

// P8.9: a barrel keeps after the greatest Days in it, and a part can be in the way of one that would keep earlier.
func TestEarly(t *testing.T) {
	h := api.SaltHouse{Kinds: []api.SaltKind{kind(0, 2), kind(0, 9), kind(0, 0)}, Parts: []api.SaltPart{part(0, 10), part(1, 5)}, Barrels: []int{15}}
	early(t, h, 8, 0)
	early(t, h, 9, 15)
	h.Barrels = []int{15, 4}
	early(t, h, 8, 0)
	h.Barrels[1] = 5
	early(t, h, 8, 10)
	early(t, h, 2, 10)
	early(t, h, 1, 0)
	early(t, h, 0, 0)
	h.Parts = append(h.Parts, part(2, 3))
	h.Barrels = []int{10, 8}
	early(t, h, 0, 0)
	early(t, h, 2, 10)
	h.Barrels[1] = 9
	early(t, h, 8, 10)
	h.Barrels = []int{13, 5}
	early(t, h, 1, 0)
	early(t, h, 2, 13)
	h.Barrels = []int{10, 5, 3}
	early(t, h, 0, 3)
	early(t, h, 1, 3)
	early(t, h, 2, 13)
	early(t, h, 20, 18)
	h.Parts[1].Pounds = 0
	h.Barrels = []int{13, 0}
	early(t, h, 2, 13)
	h.Barrels = h.Barrels[:1]
	early(t, h, 2, 0)
	early(t, api.SaltHouse{Barrels: []int{99}}, 20, 0)
	early(t, largest(), 19, 0)
	early(t, largest(), 20, 138)
}

// P8.11: also if there is no packing of all parts; what is laid down must have room, too.
func TestStock(t *testing.T) {
	for much, want := range map[int]int{0: 0, 4: 0, 5: 10, 6: 10, 7: 15, 9: 15, 10: 25, 16: 25, 999: 25} {
		stock(t, houseT(), much, want)
	}
	for much, want := range map[int]int{0: 0, 4: 0, 5: 10, 10: 10, 11: 18, 999: 18} {
		stock(t, full(), much, want)
	}
	for much, want := range map[int]int{44: 0, 45: 40, 89: 40, 90: 80, 999: 80} {
		stock(t, tooMuch(), much, want)
	}
	for much, want := range map[int]int{0: 0, 29: 0, 30: 23, 50: 23, 51: 46, 80: 46, 81: 69, 101: 69, 102: 92, 152: 115, 153: 138, 999: 138} {
		stock(t, largest(), much, want)
	}
	h := api.SaltHouse{Kinds: []api.SaltKind{kind(0, 0), kind(9, 0)}, Parts: []api.SaltPart{part(0, 30), part(1, 10), part(1, 20)}, Barrels: []int{60}}
	for much, want := range map[int]int{0: 30, 8: 30, 9: 30, 17: 30, 26: 30, 27: 30, 35: 30, 999: 30} {
		stock(t, h, much, want)
	}
	h.Parts[0].Pounds = 5
	for much, want := range map[int]int{0: 5, 8: 5, 9: 10, 13: 10, 14: 15, 17: 15, 18: 20, 22: 20, 23: 25, 26: 25, 27: 30, 999: 30} {
		stock(t, h, much, want)
	}
	h.Barrels = append(h.Barrels, 5)
	for much, want := range map[int]int{0: 5, 8: 5, 9: 15, 17: 15, 18: 25, 26: 25, 27: 35, 999: 35} {
		stock(t, h, much, want)
	}
	h.Barrels = nil
	stock(t, h, 999, 0)
	stock(t, api.SaltHouse{Barrels: []int{99}}, 0, 0)
	stock(t, plain(kind(9, 0), []int{0, 0}, 99), 0, 0)
	stock(t, plain(kind(0, 0), []int{40, 40, 9, 9, 9}, 50, 44, 9), 0, 40+9+40+9)
}

// P8.12: of all that can be in it; ErrMany comes before ErrNone.
func TestBuy(t *testing.T) {
	buy(t, api.SaltHouse{}, 0)
	buy(t, largest(), 0)
	buy(t, plain(kind(5, 0), []int{20, 7}), 41)
	buy(t, plain(kind(5, 0), []int{20, 7}, 10), 41)
	buy(t, plain(kind(5, 0), []int{20, 7}, 11), 30)
	buy(t, plain(kind(5, 0), []int{20, 7}, 30), 11)
	buy(t, plain(kind(5, 0), []int{20, 7}, 40), 11)
	buy(t, plain(kind(5, 0), []int{20, 7}, 41), 0)
	buy(t, plain(kind(5, 0), []int{20, 7}, 29, 11, 11), 30)
	buy(t, plain(kind(0, 0), []int{10, 9, 8}, 9), 18)
	buy(t, plain(kind(0, 0), []int{10, 9, 8}, 9, 8), 10)
	buy(t, plain(kind(0, 0), []int{10, 9, 8}, 17), 10)
	buy(t, plain(kind(0, 0), []int{10, 9, 8}, 16), 17)
	buy(t, plain(kind(5, 0), []int{40, 26}), 99)
	buy(t, plain(kind(0, 0), []int{40, 40, 19}), 99)
	noBuy(t, plain(kind(0, 0), []int{40, 40, 20}), api.ErrNone)
	noBuy(t, plain(kind(5, 0), []int{40, 27}, 6, 6, 6), api.ErrNone)
	noBuy(t, tooMuch(), api.ErrNone)
	noBuy(t, full(), api.ErrMany)
	noBuy(t, houseWith(func(h *api.SaltHouse) { h.Barrels = make([]int, 4) }), api.ErrMany)
	h := tooMuch()
	h.Barrels = append(h.Barrels, 99)
	noBuy(t, h, api.ErrMany)
	errors(t, h, args{}, noPacking(api.ErrMany))
	errors(t, tooMuch(), args{}, noPacking(api.ErrNone))
	buy(t, plain(kind(0, 0), []int{0, 40}, 0, 0, 0, 40), 0)
}

// P8.12: a barrel of no size can be what there is to buy.
func TestBuyNoSize(t *testing.T) {
	h := plain(kind(9, 0), []int{0})
	buy(t, h, 0)
	errors(t, h, args{}, noPacking(api.OK))
	h.Floor = 1
	buy(t, h, 1)
	h.Barrels = []int{0, 0, 0}
	buy(t, h, 1)
	h.Barrels = []int{0, 0, 0, 0}
	noBuy(t, h, api.ErrMany)
	h.Floor = 0
	buy(t, h, 0)
}

// Without a part there is one packing, and without a barrel none of any part.
func TestEmpty(t *testing.T) {
	for _, h := range []api.SaltHouse{{}, {Kinds: []api.SaltKind{kind(9, 9)}, Floor: 9}} {
		salted(t, h, 0)
		good(t, h, true)
		least(t, h, 0)
		fewest(t, h, 0)
		early(t, h, 0, 0)
		stock(t, h, 0, 0)
		buy(t, h, 0)
	}
	h := houseWith(func(h *api.SaltHouse) { h.Barrels = nil })
	errors(t, h, args{pack: []int{0, 0, 0}}, noPacking(api.OK))
	salted(t, h, 10, 0, 1)
	stock(t, h, 999, 0)
	buy(t, h, 33+19)
}

// R3 and R4: empty lists are nil lists, results are new memory, and no argument is changed.
func TestMemory(t *testing.T) {
	for _, h := range []api.SaltHouse{{}, {Kinds: []api.SaltKind{}, Parts: []api.SaltPart{}, Barrels: []int{}}, houseS(), houseT()} {
		want := callAll(h, args{})
		for i, got := range callAll(h, args{parts: []int{}, pack: []int{}}) {
			if got.e != want[i].e || !reflect.DeepEqual(got.result, want[i].result) && !(isZero(got.result) && isZero(want[i].result)) {
				t.Errorf("%s of empty lists = %v, of nil lists %v", got.name, got, want[i])
			}
		}
	}
	for _, make := range []func() api.SaltHouse{houseS, houseT, full, tooMuch, largest} {
		h, a := make(), argsS()
		h.Barrels = append(slices.Grow(h.Barrels, 3), 7, 7)[:len(h.Barrels)]
		first := callAll(make(), argsS())
		for range 2 {
			for i, got := range callAll(h, a) {
				if !reflect.DeepEqual(got, first[i]) {
					t.Errorf("%v: %s = %v, and then %v", h, got.name, first[i], got)
				}
				if l, is := got.result.([]int); is {
					l = l[:cap(l)]
					for i := range l {
						l[i] = -9
					}
				}
			}
			if !reflect.DeepEqual(h, make()) || !slices.Equal(h.Barrels[len(h.Barrels):][:2], []int{7, 7}) || !reflect.DeepEqual(a, argsS()) {
				t.Fatalf("the arguments are changed: %v, %v", h, a)
			}
		}
	}
}
