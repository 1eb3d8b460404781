package sales_test

import (
	"slices"
	"testing"

	"almadraba/api"
	"almadraba/sales"
)

// must returns a function that returns what was returned without an error.
func must[T any](t *testing.T, f api.SaleFair) func(T, api.Errno) T {
	return func(result T, e api.Errno) T {
		t.Helper()
		if e != api.OK {
			t.Fatalf("%v: the error %d", f, e)
		}
		return result
	}
}

func mostOf(t *testing.T, f api.SaleFair) int {
	t.Helper()
	return must[int](t, f)(sales.Most(f))
}

func winnersOf(t *testing.T, f api.SaleFair) []int {
	t.Helper()
	return must[[]int](t, f)(sales.Winners(f))
}

func wonOf(t *testing.T, f api.SaleFair, number int) int {
	t.Helper()
	return must[int](t, f)(sales.Won(f, number))
}

func paysOf(t *testing.T, f api.SaleFair, buyer int) int {
	t.Helper()
	return must[int](t, f)(sales.Pays(f, buyer))
}

// needOf returns what Need returns, and more than there can be if there is ErrNone.
func needOf(t *testing.T, f api.SaleFair, number int) int {
	t.Helper()
	pence, e := sales.Need(f, number)
	if e == api.ErrNone {
		return api.MaxSalePence + 1
	}
	return must[int](t, f)(pence, e)
}

// P9.13.
func TestEachSale(t *testing.T) {
	many := 0
	found := map[int]int{}
	for _, f := range fairs(21, 2000, 6, 4, 7) {
		pence, winners := mostOf(t, f), winnersOf(t, f)
		if !must[bool](t, f)(sales.Good(f, winners)) || penceOf(f, winners) != pence {
			t.Fatalf("%v: Winners = %v, Most = %d", f, winners, pence)
		}
		for _, list := range choices(len(f.Bids)) {
			if must[bool](t, f)(sales.Good(f, list)) {
				many++
				if penceOf(f, list) > pence {
					t.Fatalf("%v: Most = %d, but for %v", f, pence, list)
				}
			}
		}
		for number := range f.Bids {
			is := wonOf(t, f, number)
			found[is]++
			if in := slices.Contains(winners, number); is == api.Surely && !in || is == api.Never && in {
				t.Fatalf("%v: Won of %d = %d, Winners = %v", f, number, is, winners)
			}
		}
	}
	if many < 5000 || found[api.Surely] < 500 || found[api.Never] < 500 || found[api.Perhaps] < 500 {
		t.Errorf("too few sales, or bids, of one kind: %d, %v", many, found)
	}
}

// P9.14: one more bid, at any place.
func TestOneBidMore(t *testing.T) {
	d := dice(22)
	var found [2]int
	for _, f := range fairs(22, 4000, 6, 4, 7) {
		if f.Buyers == 0 || len(f.Bids) == api.MaxSaleBids {
			continue
		}
		more := f
		more.Bids = slices.Insert(slices.Clone(f.Bids), d.below(len(f.Bids)+1), d.offer(f.Buyers, len(f.House.Barrels), 20))
		before, after := mostOf(t, f), mostOf(t, more)
		if after < before {
			t.Fatalf("Most of %v = %d, with one more bid, of %v, %d", f, before, more, after)
		}
		found[min(after-before, 1)]++
	}
	if slices.Min(found[:]) < 500 {
		t.Errorf("too few fairs of one kind: %v", found)
	}
}

// P9.14: one penny more in a bid.
func TestOnePennyMore(t *testing.T) {
	found := map[int]int{}
	for _, f := range fairs(23, 3000, 6, 4, 8) {
		before := mostOf(t, f)
		for number, b := range f.Bids {
			if b.Pence == api.MaxSalePence {
				continue
			}
			is, want := wonOf(t, f, number), before
			if is != api.Never {
				want++
			}
			found[is]++
			if after := mostOf(t, offered(f, number, b.Pence+1)); after != want {
				t.Fatalf("%v: Most = %d, with one penny more for %d, which wins %d, %d", f, before, number, is, after)
			}
		}
	}
	if found[api.Surely] < 500 || found[api.Never] < 500 || found[api.Perhaps] < 500 {
		t.Errorf("too few bids of one kind: %v", found)
	}
}

// P9.15.
func TestWhatTheyPay(t *testing.T) {
	paying, other := 0, 0
	for _, f := range fairs(24, 4000, 6, 4, 8) {
		winners, sum := winnersOf(t, f), 0
		for buyer := range f.Buyers {
			pay, pence := paysOf(t, f, buyer), 0
			for _, number := range winners {
				if f.Bids[number].Buyer == buyer {
					pence = f.Bids[number].Pence
				}
			}
			if pay < 0 || pay > pence {
				t.Fatalf("%v: Pays of %d = %d, of %d pence", f, buyer, pay, pence)
			}
			if pay > 0 {
				paying++
			} else {
				other++
			}
			sum += pay
		}
		if paid := must[int](t, f)(sales.Paid(f)); paid != sum || paid > mostOf(t, f) {
			t.Fatalf("%v: Paid = %d, all pay %d, Most = %d", f, paid, sum, mostOf(t, f))
		}
	}
	if paying < 500 || other < 500 {
		t.Errorf("too few buyers of one kind: %d, %d", paying, other)
	}
}

// P9.16.
func TestHonesty(t *testing.T) {
	d := dice(25)
	var found [2]int
	for _, f := range fairs(25, 4000, 6, 4, 8) {
		for _, number := range winnersOf(t, f) {
			b := f.Bids[number]
			if b.Pence == api.MaxSalePence {
				continue
			}
			pay := paysOf(t, f, b.Buyer)
			found[min(pay, 1)]++
			for _, pence := range []int{b.Pence + 1, b.Pence + 1 + d.below(api.MaxSalePence-b.Pence), api.MaxSalePence} {
				more := offered(f, number, pence)
				if !slices.Contains(winnersOf(t, more), number) || paysOf(t, more, b.Buyer) != pay {
					t.Fatalf("%v: Pays of %d = %d, but for %d pence %v and %d", f, b.Buyer, pay, pence, winnersOf(t, more), paysOf(t, more, b.Buyer))
				}
			}
		}
	}
	if slices.Min(found[:]) < 500 {
		t.Errorf("too few buyers of one kind: %v", found)
	}
}

// P9.17.
func TestWhatIsNeeded(t *testing.T) {
	can, never := 0, 0
	for _, f := range fairs(26, 3000, 6, 4, 8) {
		for number, b := range f.Bids {
			pence := needOf(t, f, number)
			if pence <= api.MaxSalePence && wonOf(t, offered(f, number, pence), number) == api.Never {
				t.Fatalf("%v: Need of %d = %d, with which it never wins", f, number, pence)
			}
			if pence > 0 && wonOf(t, offered(f, number, pence-1), number) != api.Never {
				t.Fatalf("%v: Need of %d = %d, it can win with less", f, number, pence)
			}
			is := wonOf(t, f, number) != api.Never
			if is != (b.Pence >= pence) {
				t.Fatalf("%v: Need of %d = %d, it can win: %t", f, number, pence, is)
			}
			if is {
				can++
			} else {
				never++
			}
		}
	}
	if can < 1000 || never < 1000 {
		t.Errorf("too few bids of one kind: %d, %d", can, never)
	}
}

// P9.18.
func TestLaterDays(t *testing.T) {
	more := 0
	for _, f := range fairs(27, 1500, 6, 4, 8) {
		best := must[int](t, f)(sales.On(f, must[int](t, f)(sales.When(f))))
		last := 0
		var before []int
		for day := range api.MaxSaltDays + 1 {
			are := must[[]int](t, f)(sales.Ready(onDay(f, day)))
			for _, barrel := range before {
				if !slices.Contains(are, barrel) {
					t.Fatalf("%v: Ready on the day %d = %v, but for %d", f, day, are, barrel)
				}
			}
			pence := must[int](t, f)(sales.On(f, day))
			if pence < last || pence > best || pence != mostOf(t, onDay(f, day)) {
				t.Fatalf("%v: On of %d = %d, the day before %d, and of When %d", f, day, pence, last, best)
			}
			if day > 0 && pence > last {
				more++
			}
			last, before = pence, are
		}
		if last != best {
			t.Fatalf("%v: on the last day %d, of When %d", f, last, best)
		}
	}
	if more < 500 {
		t.Errorf("too few days with more: %d", more)
	}
}

// P9.19.
func TestEachPacking(t *testing.T) {
	less, many := 0, 0
	for _, f := range append(fairs(28, 1000, 4, 3, 6), fairs(29, 40, 6, 3, 6)...) {
		first := must[[]int](t, f)(sales.Repack(f))
		packs := packsOf(f)
		if !slices.ContainsFunc(packs, func(list []int) bool { return slices.Equal(list, first) }) {
			t.Fatalf("%v: Repack = %v, which is no packing", f, first)
		}
		best := f
		best.Pack = first
		pence := mostOf(t, best)
		for _, list := range packs {
			f.Pack = list
			is := mostOf(t, f)
			if is > pence {
				t.Fatalf("%v: Repack = %v with %d, this has %d", f, first, pence, is)
			}
			if is < pence {
				less++
			}
			many++
		}
	}
	if less < 1000 || many < 5000 {
		t.Errorf("too few packings: %d, %d", less, many)
	}
}

// P9.20.
func TestAnyOrder(t *testing.T) {
	d := dice(30)
	found := map[int]int{}
	for _, f := range fairs(30, 2000, 6, 4, 8) {
		order, other := d.shuffled(len(f.Bids)), f
		other.Bids = make([]api.SaleBid, len(f.Bids))
		for number, at := range order {
			other.Bids[at] = f.Bids[number]
		}
		if mostOf(t, other) != mostOf(t, f) {
			t.Fatalf("Most of %v = %d, in another order, of %v, %d", f, mostOf(t, f), other, mostOf(t, other))
		}
		for number, at := range order {
			is, as := wonOf(t, f, number), wonOf(t, other, at)
			found[is]++
			if is != as {
				t.Fatalf("Won of %v, %d = %d, in another order, of %v, %d, %d", f, number, is, other, at, as)
			}
		}
		names := d.shuffled(f.Buyers)
		other.Bids = slices.Clone(f.Bids)
		for number, b := range f.Bids {
			other.Bids[number].Buyer = names[b.Buyer]
		}
		if mostOf(t, other) != mostOf(t, f) || !slices.Equal(winnersOf(t, other), winnersOf(t, f)) {
			t.Fatalf("Winners of %v = %v, with other buyers, of %v, %v", f, winnersOf(t, f), other, winnersOf(t, other))
		}
		for buyer, name := range names {
			if paysOf(t, f, buyer) != paysOf(t, other, name) {
				t.Fatalf("Pays of %v, %d = %d, with other buyers, of %v, %d, %d", f, buyer, paysOf(t, f, buyer), other, name, paysOf(t, other, name))
			}
		}
	}
	if found[api.Surely] < 500 || found[api.Never] < 500 || found[api.Perhaps] < 500 {
		t.Errorf("too few bids of one kind: %v", found)
	}
}

// P9.21.
func TestWithoutBuyer(t *testing.T) {
	var found [3]int // nothing less, less, and less by the greatest bid
	for _, f := range fairs(31, 3000, 6, 4, 8) {
		for buyer := range f.Buyers {
			greatest := 0
			for _, b := range f.Bids {
				if b.Buyer == buyer {
					greatest = max(greatest, b.Pence)
				}
			}
			less := mostOf(t, f) - mostOf(t, without(f, buyer))
			if less < 0 || less > greatest {
				t.Fatalf("%v: Most = %d, without the bids of %d it is less by %d", f, mostOf(t, f), buyer, less)
			}
			switch {
			case less == 0:
				found[0]++
			case less < greatest:
				found[1]++
			default:
				found[2]++
			}
		}
	}
	if slices.Min(found[:]) < 500 {
		t.Errorf("too few buyers of one kind: %v", found)
	}
}
