package sales_test

import (
	"math"
	"reflect"
	"slices"
	"testing"

	"almadraba/api"
	"almadraba/sales"
)

// bid is a bid of a buyer: so many pence for all barrels together.
func bid(buyer, pence int, barrels ...int) api.SaleBid {
	return api.SaleBid{Buyer: buyer, Barrels: barrels, Pence: pence}
}

// houseS is S of the examples of chapter 8.
func houseS() api.SaltHouse {
	return api.SaltHouse{
		Kinds:   []api.SaltKind{{Salt: 3, Days: 10}, {Salt: 5, Days: 4}},
		Floor:   2,
		Parts:   []api.SaltPart{{Kind: 0, Pounds: 10}, {Kind: 0, Pounds: 15}, {Kind: 1, Pounds: 8}},
		Barrels: []int{40, 20},
	}
}

// fairF is F of the chapter's examples.
func fairF() api.SaleFair {
	return api.SaleFair{
		House: houseS(), Pack: []int{0, 0, 1}, Day: 10, Buyers: 3,
		Bids: []api.SaleBid{bid(0, 30, 0), bid(1, 45, 0, 1), bid(2, 12, 1), bid(0, 20, 1)},
	}
}

// fairG is G of the chapter's examples.
func fairG() api.SaleFair { return fairWith(func(f *api.SaleFair) { f.Day = 5 }) }

// fairWith is F with something changed.
func fairWith(change func(f *api.SaleFair)) api.SaleFair {
	f := fairF()
	change(&f)
	return f
}

// market has four barrels, each with a part of its own, which keep after so many days; the fair is on the last day, of four buyers.
func market(days [4]int, bids ...api.SaleBid) api.SaleFair {
	f := api.SaleFair{Pack: []int{0, 1, 2, 3}, Day: api.MaxSaltDays, Buyers: api.MaxSaleBuyers, Bids: bids}
	f.House.Barrels = []int{10, 10, 10, 10}
	var kinds []int
	for _, day := range days {
		if !slices.Contains(kinds, day) {
			kinds = append(kinds, day)
			f.House.Kinds = append(f.House.Kinds, api.SaltKind{Days: day})
		}
		f.House.Parts = append(f.House.Parts, api.SaltPart{Kind: slices.Index(kinds, day), Pounds: 9})
	}
	return f
}

// fresh is a market of which all is ready on each day.
func fresh(bids ...api.SaleBid) api.SaleFair { return market([4]int{}, bids...) }

// largest is a fair with as much of everything as there can be.
func largest() api.SaleFair {
	return api.SaleFair{
		House: api.SaltHouse{
			Kinds: slices.Repeat([]api.SaltKind{{Salt: 9, Days: 20}}, 3), Floor: 9,
			Parts: slices.Repeat([]api.SaltPart{{Kind: 2, Pounds: 23}}, 6), Barrels: []int{99, 99, 99, 99},
		},
		Pack: []int{0, 1, 2, 3, 0, 1}, Day: 20, Buyers: 4, Bids: slices.Repeat([]api.SaleBid{bid(3, 99, 0, 1, 2, 3)}, 8),
	}
}

// args is one of each kind of argument beside a fair.
type args struct {
	sale            []int
	bid, buyer, day int
}

// argsF are arguments that fit F.
func argsF() args { return args{sale: []int{0, 2}, bid: 2, buyer: 1, day: 5} }

// answer is what a call returned.
type answer struct {
	name   string
	result any
	e      api.Errno
}

// callAll calls each function but Check.
func callAll(f api.SaleFair, a args) []answer {
	ready, e0 := sales.Ready(f)
	good, e1 := sales.Good(f, a.sale)
	most, e2 := sales.Most(f)
	winners, e3 := sales.Winners(f)
	won, e4 := sales.Won(f, a.bid)
	pays, e5 := sales.Pays(f, a.buyer)
	paid, e6 := sales.Paid(f)
	need, e7 := sales.Need(f, a.bid)
	on, e8 := sales.On(f, a.day)
	when, e9 := sales.When(f)
	repack, e10 := sales.Repack(f)
	return []answer{
		{"Ready", ready, e0}, {"Good", good, e1}, {"Most", most, e2}, {"Winners", winners, e3}, {"Won", won, e4}, {"Pays", pays, e5},
		{"Paid", paid, e6}, {"Need", need, e7}, {"On", on, e8}, {"When", when, e9}, {"Repack", repack, e10},
	}
}

// isZero reports whether a result is a zero value, or an empty list.
func isZero(result any) bool {
	v := reflect.ValueOf(result)
	return v.IsZero() || v.Kind() == reflect.Slice && v.Len() == 0
}

// errors checks that each call by a name returns nothing but its error, and that all others return none.
func errors(t *testing.T, f api.SaleFair, a args, want map[string]api.Errno) {
	t.Helper()
	for _, got := range callAll(f, a) {
		if got.e != want[got.name] || got.e != api.OK && !isZero(got.result) {
			t.Errorf("%v: %s with %v = %v, %d, not the error %d", f, got.name, a, got.result, got.e, want[got.name])
		}
	}
}

// all has an error for each function but Check.
func all(e api.Errno) map[string]api.Errno {
	want := map[string]api.Errno{}
	for _, got := range callAll(fairF(), argsF()) {
		want[got.name] = e
	}
	return want
}

// of has an error for some functions.
func of(e api.Errno, names ...string) map[string]api.Errno {
	want := map[string]api.Errno{}
	for _, name := range names {
		want[name] = e
	}
	return want
}

// same checks what was returned.
func same[T any](t *testing.T, f api.SaleFair, name string, got T, e api.Errno, want T) {
	t.Helper()
	if e != api.OK || !reflect.DeepEqual(got, want) && !(isZero(got) && isZero(want)) {
		t.Fatalf("%v: %s = %v, %d, not %v", f, name, got, e, want)
	}
}

// ready checks what Ready returns.
func ready(t *testing.T, f api.SaleFair, want ...int) {
	t.Helper()
	got, e := sales.Ready(f)
	same(t, f, "Ready", got, e, want)
}

// good checks what Good returns.
func good(t *testing.T, f api.SaleFair, want bool, sale ...int) {
	t.Helper()
	got, e := sales.Good(f, sale)
	if got != want || e != api.OK {
		t.Fatalf("%v: Good of %v = %t, %d", f, sale, got, e)
	}
}

// most checks what Most and Winners return.
func most(t *testing.T, f api.SaleFair, want int, winners ...int) {
	t.Helper()
	got, e := sales.Most(f)
	same(t, f, "Most", got, e, want)
	list, e := sales.Winners(f)
	same(t, f, "Winners", list, e, winners)
}

// won checks what Won returns of all bids, one after the other.
func won(t *testing.T, f api.SaleFair, want ...int) {
	t.Helper()
	for number := range f.Bids {
		got, e := sales.Won(f, number)
		same(t, f, "Won", got, e, want[number])
	}
}

// pays checks what Pays returns of all buyers, one after the other, and what Paid returns.
func pays(t *testing.T, f api.SaleFair, want ...int) {
	t.Helper()
	sum := 0
	for buyer := range f.Buyers {
		got, e := sales.Pays(f, buyer)
		same(t, f, "Pays", got, e, want[buyer])
		sum += got
	}
	got, e := sales.Paid(f)
	same(t, f, "Paid", got, e, sum)
}

// none is what need wants if there is ErrNone.
const none = -1

// need checks what Need returns of all bids, one after the other.
func need(t *testing.T, f api.SaleFair, want ...int) {
	t.Helper()
	for number := range f.Bids {
		got, e := sales.Need(f, number)
		if want[number] == none {
			if got != 0 || e != api.ErrNone {
				t.Fatalf("%v: Need of %d = %d, %d, not ErrNone", f, number, got, e)
			}
			continue
		}
		same(t, f, "Need", got, e, want[number])
	}
}

// on checks what On returns.
func on(t *testing.T, f api.SaleFair, day, want int) {
	t.Helper()
	got, e := sales.On(f, day)
	same(t, f, "On", got, e, want)
}

// when checks what When returns.
func when(t *testing.T, f api.SaleFair, want int) {
	t.Helper()
	got, e := sales.When(f)
	same(t, f, "When", got, e, want)
}

// repack checks what Repack returns.
func repack(t *testing.T, f api.SaleFair, want ...int) {
	t.Helper()
	got, e := sales.Repack(f)
	same(t, f, "Repack", got, e, want)
}

// The examples of the chapter, and the one of the document.
func TestExamples(t *testing.T) {
	f, g := fairF(), fairG()
	ready(t, f, 0, 1)
	ready(t, g, 1)
	good(t, f, true, 0, 2)
	good(t, f, false, 0, 1)
	good(t, f, false, 0, 3)
	most(t, f, 45, 1)
	won(t, f, api.Never, api.Surely, api.Never, api.Never)
	won(t, g, api.Never, api.Never, api.Never, api.Surely)
	pays(t, f, 0, 42, 0)
	paid, e := sales.Paid(f)
	same(t, f, "Paid", paid, e, 42)
	need(t, f, 33, 42, 15, 45)
	on(t, f, 3, 0)
	on(t, f, 5, 20)
	when(t, f, 10)
	repack(t, f, 0, 0, 1)
	most(t, g, 20, 3)
	pays(t, g, 12, 0, 0)
}

// beyond has numbers that are not from one to another one.
func beyond(low, high int) []int {
	return []int{low - 1, high + 1, low - 7, high + 7, math.MinInt, math.MaxInt}
}

// wrongBids has fairs that are not valid for a bid, each for one reason.
func wrongBids() []api.SaleFair {
	var fairs []api.SaleFair
	for number := range fairF().Bids {
		add := func(change func(b *api.SaleBid)) {
			fairs = append(fairs, fairWith(func(f *api.SaleFair) { change(&f.Bids[number]) }))
		}
		for _, n := range beyond(0, fairF().Buyers-1) {
			add(func(b *api.SaleBid) { b.Buyer = n })
		}
		for _, n := range beyond(0, api.MaxSalePence) {
			add(func(b *api.SaleBid) { b.Pence = n })
		}
		for _, n := range beyond(0, len(houseS().Barrels)-1) {
			add(func(b *api.SaleBid) { b.Barrels = []int{n} })
			add(func(b *api.SaleBid) { b.Barrels = []int{0, n} })
			add(func(b *api.SaleBid) { b.Barrels = []int{n, 1} })
		}
		for _, list := range [][]int{nil, {}, {0, 0}, {1, 1}, {1, 0}, {0, 1, 1}, {0, 1, 0}, {0, 1, 2}, make([]int, 1000)} {
			add(func(b *api.SaleBid) { b.Barrels = list })
		}
	}
	return fairs
}

// wrongHouses has fairs that are not valid for their house or packing, each for one reason.
func wrongHouses() []api.SaleFair {
	var fairs []api.SaleFair
	add := func(change func(f *api.SaleFair)) { fairs = append(fairs, fairWith(change)) }
	add(func(f *api.SaleFair) { f.House.Kinds[0].Salt = -1 })
	add(func(f *api.SaleFair) { f.House.Kinds[1].Days = api.MaxSaltDays + 1 })
	add(func(f *api.SaleFair) { f.House.Kinds = nil })
	add(func(f *api.SaleFair) { f.House.Floor = -1 })
	add(func(f *api.SaleFair) { f.House.Parts[2].Pounds = -1 })
	add(func(f *api.SaleFair) { f.House.Parts[0].Kind = 2 })
	add(func(f *api.SaleFair) { f.House.Barrels[0] = api.MaxSaltSize + 1 })
	add(func(f *api.SaleFair) { f.House.Barrels = []int{40, 20, 0, 0, 0} })
	add(func(f *api.SaleFair) { f.House.Barrels = nil; f.Bids = nil })
	add(func(f *api.SaleFair) { f.House.Barrels[0] = 34 }) // in which the parts 0 and 1 have 35 pounds with their salt
	add(func(f *api.SaleFair) { f.House.Barrels[1] = 13 })
	add(func(f *api.SaleFair) { f.House.Parts = f.House.Parts[:2] })
	for _, list := range [][]int{
		nil, {}, {0, 0}, {0, 0, 1, 1}, {0, 0, 1, 0}, {0, 0, 0}, {0, 1, 0}, {1, 1, 0}, {0, 0, 2}, {0, 0, -1}, {-1, 0, 1}, {2, 0, 1},
		{0, 0, math.MaxInt}, {math.MinInt, 0, 1}, make([]int, 1000),
	} {
		add(func(f *api.SaleFair) { f.Pack = list })
	}
	return fairs
}

// invalid has fairs that are not valid, each for one reason.
func invalid() []api.SaleFair {
	fairs := append(wrongBids(), wrongHouses()...)
	add := func(change func(f *api.SaleFair)) { fairs = append(fairs, fairWith(change)) }
	for _, n := range beyond(0, api.MaxSaltDays) {
		add(func(f *api.SaleFair) { f.Day = n })
	}
	for _, n := range beyond(0, api.MaxSaleBuyers) {
		add(func(f *api.SaleFair) { f.Buyers = n })
		add(func(f *api.SaleFair) { f.Buyers, f.Bids = n, nil })
	}
	for _, n := range []int{0, 1, 2} { // fewer than have bids
		add(func(f *api.SaleFair) { f.Buyers = n })
	}
	for _, more := range []int{1, 2, 1000} {
		add(func(f *api.SaleFair) { f.Bids = slices.Repeat(f.Bids[:1], api.MaxSaleBids+more) })
	}
	return fairs
}

// P9.1, and ErrSale of all functions before any other error.
func TestInvalidFairs(t *testing.T) {
	wrong := args{sale: []int{1, 0}, bid: -1, buyer: -1, day: -1}
	for _, f := range invalid() {
		if e := sales.Check(f); e != api.ErrSale {
			t.Errorf("Check of %v: %d", f, e)
		}
		errors(t, f, argsF(), all(api.ErrSale))
		errors(t, f, wrong, all(api.ErrSale))
		errors(t, f, args{}, all(api.ErrSale))
	}
}

// P9.1: what is just valid.
func TestValidFairs(t *testing.T) {
	for i, f := range []api.SaleFair{
		{}, {Pack: []int{}, Bids: []api.SaleBid{}}, {Day: api.MaxSaltDays}, {Buyers: api.MaxSaleBuyers}, fairF(), fairG(), largest(), fresh(),
		fairWith(func(f *api.SaleFair) { f.Bids = nil }), fairWith(func(f *api.SaleFair) { f.Bids, f.Buyers = nil, 0 }),
		fairWith(func(f *api.SaleFair) { f.Day = 0 }), fairWith(func(f *api.SaleFair) { f.Day = 20 }), fairWith(func(f *api.SaleFair) { f.Buyers = 4 }),
		fairWith(func(f *api.SaleFair) { f.Pack = []int{1, 0, 0} }), fairWith(func(f *api.SaleFair) { f.House.Barrels = []int{35, 14} }),
		fairWith(func(f *api.SaleFair) { f.House.Parts, f.Pack = nil, nil }), fairWith(func(f *api.SaleFair) { f.Bids = append(f.Bids, f.Bids...) }),
		fairWith(func(f *api.SaleFair) { f.Bids[0].Pence, f.Bids[1].Pence = 0, 99 }),
		fresh(bid(3, 99, 0, 1, 2, 3), bid(0, 0, 3), bid(1, 1, 0, 3), bid(2, 2, 1, 2)),
		{House: api.SaltHouse{Barrels: []int{0}}, Buyers: 1, Bids: []api.SaleBid{bid(0, 1, 0)}},
	} {
		if e := sales.Check(f); e != api.OK {
			t.Errorf("%d: Check of %v: %d", i, f, e)
		}
	}
}

// ErrArg of buyers, bids and days that there are not, also before ErrNone.
func TestWrongArgs(t *testing.T) {
	for _, f := range []api.SaleFair{fairF(), fairWith(func(f *api.SaleFair) { f.Day = 0 })} {
		fits := args{sale: []int{9}, day: 20}
		for _, n := range beyond(0, len(f.Bids)-1) {
			a := fits
			a.bid = n
			errors(t, f, a, of(api.ErrArg, "Won", "Need"))
		}
		fits.bid = 2
		if f.Day == 0 {
			errors(t, f, fits, of(api.ErrNone, "Need"))
			continue
		}
		for _, n := range beyond(0, f.Buyers-1) {
			a := fits
			a.buyer = n
			errors(t, f, a, of(api.ErrArg, "Pays"))
		}
		for _, n := range beyond(0, api.MaxSaltDays) {
			a := fits
			a.day = n
			errors(t, f, a, of(api.ErrArg, "On"))
		}
	}
}

// A fair without anything.
func TestEmpty(t *testing.T) {
	for _, f := range []api.SaleFair{{}, {Pack: []int{}, Bids: []api.SaleBid{}}, {Day: 20}} {
		errors(t, f, args{}, of(api.ErrArg, "Won", "Pays", "Need"))
		good(t, f, true)
		good(t, f, false, 0)
		ready(t, f)
		most(t, f, 0)
		pays(t, f)
		on(t, f, 0, 0)
		on(t, f, 20, 0)
		when(t, f, 0)
		repack(t, f)
	}
	f := api.SaleFair{Buyers: 2, House: api.SaltHouse{Barrels: []int{5, 9}}, Bids: []api.SaleBid{bid(1, 9, 0), bid(0, 0, 1)}}
	errors(t, f, args{}, of(api.ErrNone, "Need"))
	ready(t, f)
	most(t, f, 0)
	won(t, f, api.Never, api.Never)
	pays(t, f, 0, 0)
	when(t, f, 0)
	repack(t, f)
}

// P9.2: the day after which a barrel keeps is one on which it is ready; a barrel without parts never is, and one whose parts have no pounds is.
func TestReady(t *testing.T) {
	f := market([4]int{7, 0, 20, 7})
	for day := range api.MaxSaltDays + 1 {
		f.Day = day
		switch {
		case day < 7:
			ready(t, f, 1)
		case day < 20:
			ready(t, f, 0, 1, 3)
		default:
			ready(t, f, 0, 1, 2, 3)
		}
	}
	f.House.Barrels = []int{18, 18, 9, 40}
	for _, x := range []struct {
		pack, early, late []int
	}{
		{[]int{1, 1, 0, 0}, []int{1}, []int{0, 1}}, {[]int{3, 3, 3, 3}, nil, []int{3}}, {[]int{0, 2, 3, 0}, []int{0, 2}, []int{0, 2, 3}},
		{[]int{3, 1, 3, 1}, []int{1}, []int{1, 3}},
	} {
		f.Pack, f.Day = x.pack, 19
		ready(t, f, x.early...)
		f.Day = 20
		ready(t, f, x.late...)
	}
	light := api.SaleFair{
		House: api.SaltHouse{Kinds: []api.SaltKind{{}, {Days: 3}}, Parts: []api.SaltPart{{}, {Kind: 1}}, Barrels: []int{0, 0, 0}}, Pack: []int{2, 0},
	}
	ready(t, light, 2)
	light.Day = 3
	ready(t, light, 0, 2)
	light.Pack = []int{0, 0}
	ready(t, light, 0)
	light.Day = 2
	ready(t, light)
}

// P9.3: each way in which a list is no sale; it is none either if its beginning is one.
func TestGood(t *testing.T) {
	f := market([4]int{5, 5, 5, 6}, bid(0, 1, 0), bid(1, 1, 1), bid(2, 1, 2), bid(3, 1, 3), bid(0, 1, 1), bid(3, 1, 0, 2), bid(3, 1, 1, 3), bid(1, 1, 1))
	for _, list := range [][]int{nil, {}, {0}, {3}, {7}, {0, 1}, {0, 1, 2}, {0, 1, 2, 3}, {2, 3, 4}, {1, 5}, {0, 6}, {0, 2, 6}, {4, 5}, {0, 2, 7}, {0, 2, 3, 7}} {
		good(t, f, true, list...)
	}
	for _, list := range [][]int{
		{-1}, {8}, {math.MinInt}, {math.MaxInt}, {0, 8}, {-1, 0}, {0, 0}, {1, 0}, {0, 2, 1}, {0, 1, 1}, {0, 1, 2, 3, 3}, {0, 1, 2, 3, 4}, // not bids, strictly ascending
		{0, 4}, {0, 2, 4}, {3, 5}, {5, 6}, {1, 7}, {0, 1, 7}, {1, 4}, {0, 5}, {2, 5}, {1, 6}, {0, 2, 5}, {4, 7}, make([]int, 1000), // a buyer, or a barrel, in two
		{0, 1, 2, 3, 4, 5, 6, 7}, {0, 1, 2, 3, 4, 5, 6, 7, 8},
	} {
		good(t, f, false, list...)
	}
	f.Day = 5 // the barrel 3 is not ready
	for _, list := range [][]int{{3}, {6}, {0, 1, 3}, {0, 6}, {3, 7}} {
		good(t, f, false, list...)
	}
	for _, list := range [][]int{{}, {0, 1, 2}, {4, 5}, {5, 7}} {
		good(t, f, true, list...)
	}
	f.Day = 4
	for number := range f.Bids {
		good(t, f, false, number)
	}
	good(t, f, true)
}

// P9.5: of several best sales the one with the fewest bids, then the least one number by number; pence decide first.
func TestFirstBest(t *testing.T) {
	for _, x := range []struct {
		bids    []api.SaleBid
		most    int
		winners []int
	}{
		{[]api.SaleBid{bid(0, 5, 0), bid(1, 5, 0)}, 5, []int{0}},
		{[]api.SaleBid{bid(0, 4, 0), bid(1, 5, 0)}, 5, []int{1}},
		{[]api.SaleBid{bid(0, 5, 0), bid(1, 5, 1), bid(2, 10, 0, 1)}, 10, []int{2}},
		{[]api.SaleBid{bid(0, 5, 0), bid(1, 6, 1), bid(2, 10, 0, 1)}, 11, []int{0, 1}},
		{[]api.SaleBid{bid(0, 5, 0), bid(1, 5, 1), bid(2, 5, 0), bid(3, 5, 1)}, 10, []int{0, 1}},
		{[]api.SaleBid{bid(0, 5, 1), bid(0, 5, 0), bid(1, 5, 1), bid(1, 5, 0)}, 10, []int{0, 3}},
		{[]api.SaleBid{bid(2, 3, 0, 1, 2), bid(1, 4, 0, 1), bid(2, 4, 2, 3), bid(0, 8, 0, 1, 2, 3)}, 8, []int{3}},
		{[]api.SaleBid{bid(0, 1, 0), bid(1, 2, 1), bid(2, 3, 2), bid(3, 4, 0, 1), bid(3, 3, 3), bid(0, 6, 0, 1, 2)}, 9, []int{4, 5}},
		{[]api.SaleBid{bid(0, 0, 0), bid(1, 0, 1)}, 0, nil},
		{[]api.SaleBid{bid(0, 0, 0), bid(1, 7, 1), bid(2, 0, 2)}, 7, []int{1}},
		{[]api.SaleBid{bid(0, 9, 0), bid(0, 9, 1), bid(0, 9, 2)}, 9, []int{0}},
		{[]api.SaleBid{bid(0, 99, 0), bid(1, 99, 1), bid(2, 99, 2), bid(3, 99, 3)}, 396, []int{0, 1, 2, 3}},
	} {
		most(t, fresh(x.bids...), x.most, x.winners...)
	}
	most(t, largest(), 99, 0)
}

// P9.6 and P9.9: bids that can win, do so in each best sale, or never, and what is needed: nothing, just as much, or too much.
func TestWonAndNeed(t *testing.T) {
	for _, x := range []struct {
		bids      []api.SaleBid
		won, need []int
	}{
		{[]api.SaleBid{bid(0, 5, 0), bid(1, 5, 0)}, []int{api.Perhaps, api.Perhaps}, []int{5, 5}},
		{[]api.SaleBid{bid(0, 5, 0), bid(1, 6, 0)}, []int{api.Never, api.Surely}, []int{6, 5}},
		{[]api.SaleBid{bid(0, 0, 0)}, []int{api.Perhaps}, []int{0}},
		{[]api.SaleBid{bid(0, 1, 0)}, []int{api.Surely}, []int{0}},
		{[]api.SaleBid{bid(0, 0, 0), bid(1, 7, 0)}, []int{api.Never, api.Surely}, []int{7, 0}},
		{[]api.SaleBid{bid(0, 0, 0), bid(1, 7, 1)}, []int{api.Perhaps, api.Surely}, []int{0, 0}},
		{[]api.SaleBid{bid(0, 99, 0), bid(1, 99, 1), bid(2, 99, 0, 1)}, []int{api.Surely, api.Surely, api.Never}, []int{0, 0, none}},
		{[]api.SaleBid{bid(0, 49, 0), bid(1, 50, 1), bid(2, 98, 0, 1)}, []int{api.Surely, api.Surely, api.Never}, []int{48, 49, 99}},
		{[]api.SaleBid{bid(0, 50, 0), bid(1, 50, 1), bid(2, 99, 0, 1)}, []int{api.Surely, api.Surely, api.Never}, []int{49, 49, none}},
		{[]api.SaleBid{bid(0, 9, 0), bid(0, 9, 1), bid(1, 4, 1)}, []int{api.Surely, api.Never, api.Surely}, []int{5, 13, 0}},
		{[]api.SaleBid{bid(0, 3, 0), bid(1, 3, 1), bid(2, 6, 0, 1), bid(3, 2, 2)}, []int{api.Perhaps, api.Perhaps, api.Perhaps, api.Surely}, []int{3, 3, 6, 0}},
	} {
		f := fresh(x.bids...)
		won(t, f, x.won...)
		need(t, f, x.need...)
	}
	need(t, fairG(), none, none, 20, 12)
	won(t, fairG(), api.Never, api.Never, api.Never, api.Surely)
	f := fairWith(func(f *api.SaleFair) { f.Day = 3 })
	need(t, f, none, none, none, none)
	won(t, f, api.Never, api.Never, api.Never, api.Never)
}

// P9.7 and P9.8: what the others lose; without all bids of a buyer, not only the one that won; of the winners, not of any best sale.
func TestPays(t *testing.T) {
	for _, x := range []struct {
		bids []api.SaleBid
		pays []int
	}{
		{nil, []int{0, 0, 0, 0}},
		{[]api.SaleBid{bid(2, 9, 0)}, []int{0, 0, 0, 0}},
		{[]api.SaleBid{bid(2, 9, 0), bid(3, 4, 0)}, []int{0, 0, 4, 0}},
		{[]api.SaleBid{bid(2, 9, 0), bid(2, 8, 0), bid(3, 4, 0)}, []int{0, 0, 4, 0}}, // and not 8
		{[]api.SaleBid{bid(2, 9, 0), bid(2, 8, 1), bid(3, 4, 0), bid(1, 3, 1)}, []int{0, 3, 4, 0}},
		{[]api.SaleBid{bid(1, 9, 0), bid(0, 9, 0)}, []int{0, 9, 0, 0}},
		{[]api.SaleBid{bid(0, 9, 0), bid(1, 9, 0)}, []int{9, 0, 0, 0}},
		{[]api.SaleBid{bid(0, 9, 0), bid(1, 8, 1), bid(2, 12, 0, 1)}, []int{4, 3, 0, 0}},
		{[]api.SaleBid{bid(0, 9, 0), bid(1, 8, 1), bid(2, 7, 2), bid(3, 20, 0, 1, 2)}, []int{5, 4, 3, 0}},
		{[]api.SaleBid{bid(0, 9, 0), bid(1, 8, 1), bid(2, 7, 2), bid(3, 6, 0, 1, 2, 3)}, []int{0, 0, 0, 0}},
		{[]api.SaleBid{bid(0, 99, 0), bid(1, 99, 1), bid(2, 99, 2), bid(3, 99, 3)}, []int{0, 0, 0, 0}},
		{[]api.SaleBid{bid(0, 0, 0), bid(1, 0, 1)}, []int{0, 0, 0, 0}},
		{[]api.SaleBid{bid(0, 9, 0, 1), bid(1, 5, 0), bid(2, 4, 1)}, []int{9, 0, 0, 0}},
		{[]api.SaleBid{bid(0, 10, 0), bid(0, 15, 0, 1), bid(1, 7, 1), bid(2, 6, 1), bid(3, 5, 0)}, []int{5, 6, 0, 0}},
	} {
		pays(t, fresh(x.bids...), x.pays...)
	}
	pays(t, largest(), 0, 0, 0, 0)
}

// P9.10 and P9.11: the fair may be put off, and be earlier; the day itself changes nothing; the first of the days is meant.
func TestDays(t *testing.T) {
	f := market([4]int{7, 3, 19, 7}, bid(0, 5, 0), bid(1, 9, 1), bid(2, 4, 2), bid(3, 8, 1, 3), bid(0, 2, 3))
	for at := range api.MaxSaltDays + 1 {
		f.Day = at
		for day := range api.MaxSaltDays + 1 {
			switch {
			case day < 3:
				on(t, f, day, 0)
			case day < 7:
				on(t, f, day, 9)
			case day < 19:
				on(t, f, day, 14)
			default:
				on(t, f, day, 18)
			}
		}
		when(t, f, 19)
	}
	f.Bids[2].Pence = 0
	when(t, f, 7)
	f.Bids[0].Pence, f.Bids[4].Pence = 0, 0
	when(t, f, 3)
	f.Bids = nil
	when(t, f, 0)
	when(t, fresh(bid(0, 5, 0)), 0)
	last := market([4]int{20, 20, 20, 20}, bid(0, 1, 3))
	last.Day = 0
	when(t, last, 20)
	on(t, last, 19, 0)
	on(t, last, 20, 1)
}

// P9.12: the first of all packings, not the one that there is; barrels that are ready with another packing are sold.
func TestRepack(t *testing.T) {
	f := fairWith(func(f *api.SaleFair) { f.Pack = []int{1, 0, 0} })
	most(t, f, 45, 1)
	repack(t, f, 0, 0, 1)
	f.Day = 5 // now nothing is ready; what is salted strongly must be alone in a barrel
	most(t, f, 0)
	repack(t, f, 0, 0, 1)
	f.Bids = nil
	repack(t, f, 0, 0, 1)
	two := market([4]int{7, 3, 7, 3}, bid(0, 5, 2), bid(1, 4, 3))
	two.House.Barrels = []int{18, 18, 18, 18}
	two.Day = 5
	most(t, two, 4, 1)
	repack(t, two, 0, 2, 0, 3)
	two.Day = 7
	most(t, two, 9, 0, 1)
	repack(t, two, 0, 0, 2, 3)
	two.House.Barrels = []int{18, 8, 9, 9}
	two.Pack = []int{0, 2, 0, 3}
	repack(t, two, 0, 0, 2, 3)
	two.Day = 5
	repack(t, two, 0, 2, 0, 3)
	two.House.Barrels = []int{27, 8, 9, 8}
	two.Pack = []int{0, 0, 2, 0}
	most(t, two, 0)
	repack(t, two, 0, 0, 0, 2)
	two.Bids = []api.SaleBid{bid(0, 9, 0), bid(1, 9, 3)}
	repack(t, two, 0, 0, 0, 2)
}

// R3 and R4: empty lists are nil lists; arguments are not changed, and a change of a result, or of what lies behind it, changes nothing else.
func TestMemory(t *testing.T) {
	noBids := func(f *api.SaleFair) { f.House.Parts, f.Pack, f.Bids = nil, nil, nil }
	emptied := func(f *api.SaleFair) {
		f.House.Parts, f.Pack, f.Bids = []api.SaltPart{}, []int{}, []api.SaleBid{}
	}
	want := callAll(fairWith(noBids), args{})
	for i, got := range callAll(fairWith(emptied), args{sale: []int{}}) {
		if got.e != want[i].e || !reflect.DeepEqual(got.result, want[i].result) && !(isZero(got.result) && isZero(want[i].result)) {
			t.Errorf("%s of empty lists = %v, of nil lists %v", got.name, got, want[i])
		}
	}
	for _, make := range []func() api.SaleFair{fairF, fairG, largest, func() api.SaleFair { return fresh(bid(0, 3, 1), bid(1, 2, 1, 2)) }} {
		f, a := make(), argsF()
		a.bid = 1
		f.Pack = append(slices.Grow(f.Pack, 3), 7, 7)[:len(f.Pack)]
		a.sale = append(slices.Grow(a.sale, 3), 7, 7)[:len(a.sale)]
		first := callAll(make(), a)
		for range 2 {
			for i, got := range callAll(f, a) {
				if !reflect.DeepEqual(got, first[i]) {
					t.Errorf("%v: %s = %v, and then %v", f, got.name, first[i], got)
				}
				if l, is := got.result.([]int); is {
					l = l[:cap(l)]
					for i := range l {
						l[i] = -9
					}
				}
			}
			behind := append(f.Pack[len(f.Pack):][:2:2], a.sale[len(a.sale):][:2]...)
			if !reflect.DeepEqual(f, make()) || !slices.Equal(a.sale, argsF().sale) || !slices.Equal(behind, []int{7, 7, 7, 7}) {
				t.Fatalf("the arguments are changed: %v, %v", f, a)
			}
		}
	}
}
