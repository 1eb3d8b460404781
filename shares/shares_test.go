package shares_test

import (
	"math"
	"reflect"
	"slices"
	"testing"

	"almadraba/api"
	"almadraba/shares"
)

// custom has nodes of so much: up, weight and fixed of each.
func custom(nodes ...[3]int) api.ShareCustom {
	var c api.ShareCustom
	for _, n := range nodes {
		c.Nodes = append(c.Nodes, api.ShareNode{Up: n[0], Weight: n[1], Fixed: n[2]})
	}
	return c
}

// customC is C of the chapter's examples.
func customC() api.ShareCustom {
	return custom([3]int{-1, 0, 0}, [3]int{0, 0, 3}, [3]int{0, 1, 0}, [3]int{0, 1, 0}, [3]int{2, 2, 0}, [3]int{2, 1, 0}, [3]int{3, 1, 2}, [3]int{3, 4, 0})
}

// customD is D of the chapter's examples.
func customD() api.ShareCustom {
	return custom([3]int{-1, 0, 0}, [3]int{0, 1, 0}, [3]int{0, 1, 0}, [3]int{0, 4, 0}, [3]int{0, 4, 0})
}

// customWith is C with something changed.
func customWith(change func(c *api.ShareCustom)) api.ShareCustom {
	c := customC()
	change(&c)
	return c
}

// alone is a custom of one node.
func alone() api.ShareCustom { return custom([3]int{-1, 0, 0}) }

// flat has below the node 0 nodes with these Weights, without Fixed.
func flat(weights ...int) api.ShareCustom {
	c := alone()
	for _, weight := range weights {
		c.Nodes = append(c.Nodes, api.ShareNode{Weight: weight})
	}
	return c
}

// chain has each node below the one before it.
func chain(many, weight, fixed int) api.ShareCustom {
	var c api.ShareCustom
	for node := range many {
		c.Nodes = append(c.Nodes, api.ShareNode{Up: node - 1, Weight: weight, Fixed: fixed})
	}
	return c
}

// fairF is F of the examples of chapter 9.
func fairF() api.SaleFair {
	return api.SaleFair{
		House: api.SaltHouse{
			Kinds: []api.SaltKind{{Salt: 3, Days: 10}, {Salt: 5, Days: 4}}, Floor: 2,
			Parts: []api.SaltPart{{Kind: 0, Pounds: 10}, {Kind: 0, Pounds: 15}, {Kind: 1, Pounds: 8}}, Barrels: []int{40, 20},
		},
		Pack: []int{0, 0, 1}, Day: 10, Buyers: 3,
		Bids: []api.SaleBid{
			{Buyer: 0, Barrels: []int{0}, Pence: 30}, {Buyer: 1, Barrels: []int{0, 1}, Pence: 45},
			{Buyer: 2, Barrels: []int{1}, Pence: 12}, {Buyer: 0, Barrels: []int{1}, Pence: 20},
		},
	}
}

// rivals is a fair of one barrel, for which the buyers bid so much, one after the other.
func rivals(pence ...int) api.SaleFair {
	f := api.SaleFair{
		House: api.SaltHouse{Kinds: []api.SaltKind{{}}, Parts: []api.SaltPart{{Pounds: 5}}, Barrels: []int{10}},
		Pack:  []int{0}, Buyers: len(pence),
	}
	for buyer, p := range pence {
		f.Bids = append(f.Bids, api.SaleBid{Buyer: buyer, Barrels: []int{0}, Pence: p})
	}
	return f
}

// pay is that of so many pence a node got so many coins.
func pay(pence, node, coins int) api.SharePay {
	return api.SharePay{Pence: pence, Node: node, Coins: coins}
}

// pays is a list of payments.
func pays(list ...api.SharePay) []api.SharePay { return list }

// args is one of each kind of argument beside a custom.
type args struct {
	node, pence, coins int
	least              []int
	old                []api.SharePay
	fair               api.SaleFair
}

// falling has eight nodes, of which the node 5 falls.
func falling() api.ShareCustom { return flat(0, 0, 0, 1, 1, 4, 4) }

// fitting are arguments with which no function returns an error for it.
func fitting() args {
	return args{
		node: 5, pence: 42, coins: 13, least: []int{0, 0, 0, 0, 1, 1, 4, 4},
		old: pays(pay(10, 5, 1), pay(10, 7, 4), pay(400, 0, 400)), fair: fairF(),
	}
}

// argsWith are these with something changed.
func argsWith(change func(a *args)) args {
	a := fitting()
	change(&a)
	return a
}

// parts is what Split returns beside its error.
type parts struct {
	below []int
	keeps int
}

// answer is what a call returned.
type answer struct {
	name   string
	result any
	e      api.Errno
}

// callAll calls each function but Check.
func callAll(c api.ShareCustom, a args) []answer {
	gets, e0 := shares.Gets(c, a.pence)
	keeps, e1 := shares.Keeps(c, a.pence)
	below, rest, e2 := shares.Split(c, a.node, a.pence)
	sold, e3 := shares.Sold(c, a.fair)
	from, e4 := shares.From(c, a.node, a.coins)
	falls, e5 := shares.Falls(c, a.node)
	exact, e6 := shares.Exact(c, a.node)
	enough, e7 := shares.Enough(c, a.least)
	wrong, e8 := shares.Wrong(c, a.old)
	weights, e9 := shares.Weights(c, a.node, a.old)
	ask, e10 := shares.Ask(c, a.node, a.old)
	return []answer{
		{"Gets", gets, e0}, {"Keeps", keeps, e1}, {"Split", parts{below, rest}, e2}, {"Sold", sold, e3}, {"From", from, e4}, {"Falls", falls, e5},
		{"Exact", exact, e6}, {"Enough", enough, e7}, {"Wrong", wrong, e8}, {"Weights", weights, e9}, {"Ask", ask, e10},
	}
}

// isZero reports whether a result is a zero value, or an empty list.
func isZero(result any) bool {
	if p, is := result.(parts); is {
		return len(p.below) == 0 && p.keeps == 0
	}
	v := reflect.ValueOf(result)
	return v.IsZero() || v.Kind() == reflect.Slice && v.Len() == 0
}

// errors checks that each call by a name returns nothing but its error, and that all others return none.
func errors(t *testing.T, c api.ShareCustom, a args, want map[string]api.Errno) {
	t.Helper()
	for _, got := range callAll(c, a) {
		if got.e != want[got.name] || got.e != api.OK && !isZero(got.result) {
			t.Errorf("%v: %s with %v = %v, %d, not the error %d", c, got.name, a, got.result, got.e, want[got.name])
		}
	}
}

// all has an error for each function but Check.
func all(e api.Errno) map[string]api.Errno {
	want := map[string]api.Errno{}
	for _, got := range callAll(falling(), fitting()) {
		want[got.name] = e
	}
	return want
}

// of has an error for some functions.
func of(e api.Errno, names ...string) map[string]api.Errno {
	want := map[string]api.Errno{}
	for _, name := range names {
		want[name] = e
	}
	return want
}

// both has the errors of two.
func both(a, b map[string]api.Errno) map[string]api.Errno {
	for name, e := range b {
		a[name] = e
	}
	return a
}

// same checks what was returned.
func same[T any](t *testing.T, c api.ShareCustom, name string, got T, e api.Errno, want T) {
	t.Helper()
	if e != api.OK || !reflect.DeepEqual(got, want) && !(isZero(got) && isZero(want)) {
		t.Errorf("%v: %s = %v, %d, not %v", c, name, got, e, want)
	}
}

// none is what is wanted if there is ErrNone.
const none = -1

// number checks what returns a number, or ErrNone.
func number(t *testing.T, c api.ShareCustom, name string, got int, e api.Errno, want int) {
	t.Helper()
	if want != none {
		same(t, c, name, got, e, want)
	} else if got != 0 || e != api.ErrNone {
		t.Errorf("%v: %s = %d, %d, not ErrNone", c, name, got, e)
	}
}

// gets checks what Gets returns.
func gets(t *testing.T, c api.ShareCustom, pence int, want ...int) {
	t.Helper()
	got, e := shares.Gets(c, pence)
	same(t, c, "Gets", got, e, want)
}

// keeps checks what Keeps returns.
func keeps(t *testing.T, c api.ShareCustom, pence int, want ...int) {
	t.Helper()
	got, e := shares.Keeps(c, pence)
	same(t, c, "Keeps", got, e, want)
}

// split checks what Split returns.
func split(t *testing.T, c api.ShareCustom, node, pence, keeps int, below ...int) {
	t.Helper()
	list, rest, e := shares.Split(c, node, pence)
	same(t, c, "Split", parts{list, rest}, e, parts{below, keeps})
}

// sold checks what Sold returns.
func sold(t *testing.T, c api.ShareCustom, f api.SaleFair, want ...int) {
	t.Helper()
	got, e := shares.Sold(c, f)
	same(t, c, "Sold", got, e, want)
}

// from checks what From returns.
func from(t *testing.T, c api.ShareCustom, node, coins, want int) {
	t.Helper()
	got, e := shares.From(c, node, coins)
	number(t, c, "From", got, e, want)
}

// falls checks what Falls returns of all nodes, one after the other.
func falls(t *testing.T, c api.ShareCustom, want ...int) {
	t.Helper()
	for node := range c.Nodes {
		got, e := shares.Falls(c, node)
		number(t, c, "Falls", got, e, want[node])
	}
}

// exact checks what Exact returns of all nodes, one after the other: num and den of each.
func exact(t *testing.T, c api.ShareCustom, want ...int) {
	t.Helper()
	for node := range c.Nodes {
		got, e := shares.Exact(c, node)
		same(t, c, "Exact", got, e, api.Ratio{Num: want[2*node], Den: want[2*node+1]})
	}
}

// enough checks what Enough returns.
func enough(t *testing.T, c api.ShareCustom, want int, coins ...int) {
	t.Helper()
	got, e := shares.Enough(c, coins)
	number(t, c, "Enough", got, e, want)
}

// wrong checks what Wrong returns.
func wrong(t *testing.T, c api.ShareCustom, old []api.SharePay, want ...int) {
	t.Helper()
	got, e := shares.Wrong(c, old)
	same(t, c, "Wrong", got, e, want)
}

// weights checks what Weights returns: ErrNone if none are wanted.
func weights(t *testing.T, c api.ShareCustom, node int, old []api.SharePay, want ...int) {
	t.Helper()
	got, e := shares.Weights(c, node, old)
	if len(want) > 0 {
		same(t, c, "Weights", got, e, want)
	} else if len(got) > 0 || e != api.ErrNone {
		t.Errorf("%v: Weights of %d and %v = %v, %d, not ErrNone", c, node, old, got, e)
	}
}

// ask checks what Ask returns.
func ask(t *testing.T, c api.ShareCustom, node int, old []api.SharePay, want int) {
	t.Helper()
	got, e := shares.Ask(c, node, old)
	number(t, c, "Ask", got, e, want)
}

// The examples of the chapter, and the one of the document.
func TestExamples(t *testing.T) {
	c, d := customC(), customD()
	gets(t, c, 42, 42, 3, 20, 19, 14, 6, 6, 13)
	gets(t, c, 2, 2, 2, 0, 0, 0, 0, 0, 0)
	keeps(t, c, 42, 0, 3, 0, 0, 14, 6, 6, 13)
	split(t, c, 3, 19, 0, 6, 13)
	split(t, c, 7, 5, 5)
	sold(t, c, fairF(), 0, 3, 0, 0, 14, 6, 6, 13)
	from(t, c, 7, 13, 41)
	from(t, c, 1, 4, none)
	second, e := shares.Falls(d, 2)
	same(t, d, "Falls", second, e, 2)
	first, e := shares.Falls(d, 1)
	number(t, d, "Falls", first, e, none)
	exact(t, c, 1, 1, 0, 1, 1, 2, 1, 2, 1, 3, 1, 6, 1, 10, 2, 5)
	enough(t, c, 42, 0, 3, 0, 0, 14, 6, 6, 13)
	enough(t, c, none, 1, 0, 0, 0, 0, 0, 0, 0)
	wrong(t, c, pays(pay(42, 5, 6), pay(42, 4, 13)), 1)
	weights(t, c, 5, pays(pay(42, 5, 6)), 1)
	weights(t, c, 5, pays(pay(42, 4, 13)))
	ask(t, c, 5, nil, 68)
	ask(t, c, 5, pays(pay(42, 5, 6)), 0)
}

// beyond has numbers that are not from one to another one.
func beyond(low, high int) []int {
	return []int{low - 1, high + 1, low - 7, high + 7, math.MinInt, math.MaxInt}
}

// invalid has customs that are not valid, each for one reason.
func invalid() []api.ShareCustom {
	customs := []api.ShareCustom{{}, {Nodes: []api.ShareNode{}}}
	add := func(change func(c *api.ShareCustom)) { customs = append(customs, customWith(change)) }
	for node := range customC().Nodes {
		for _, n := range beyond(0, api.MaxShareWeight) {
			add(func(c *api.ShareCustom) { c.Nodes[node].Weight = n })
		}
		for _, n := range beyond(0, api.MaxShareFixed) {
			add(func(c *api.ShareCustom) { c.Nodes[node].Fixed = n })
		}
		low, high := 0, node-1
		if node == 0 {
			low, high = api.ShareTop, api.ShareTop
		}
		for _, n := range beyond(low, high) {
			add(func(c *api.ShareCustom) { c.Nodes[node].Up = n })
		}
	}
	for _, more := range []int{1, 2, 1000} {
		node := api.ShareNode{Up: 0, Weight: 1}
		add(func(c *api.ShareCustom) { c.Nodes = append(c.Nodes, slices.Repeat([]api.ShareNode{node}, more)...) })
	}
	return append(customs, custom([3]int{0, 1, 1}), custom([3]int{1, 1, 1}), chain(9, 1, 0), chain(1000, 0, 0))
}

// P10.1, and ErrShare of all functions before any other error.
func TestInvalidCustoms(t *testing.T) {
	worse := args{node: -1, pence: -1, coins: -1, least: []int{-1}, old: slices.Repeat(pays(pay(-1, -1, -1)), 7), fair: api.SaleFair{Day: -1}}
	other := argsWith(func(a *args) { a.node, a.old[0].Node = 8, 8 })
	for _, c := range invalid() {
		if e := shares.Check(c); e != api.ErrShare {
			t.Errorf("Check of %v: %d", c, e)
		}
		errors(t, c, fitting(), all(api.ErrShare))
		errors(t, c, worse, all(api.ErrShare))
		errors(t, c, other, all(api.ErrShare))
		errors(t, c, args{}, all(api.ErrShare))
	}
}

// P10.1: what is just valid.
func TestValidCustoms(t *testing.T) {
	for _, c := range []api.ShareCustom{
		alone(), custom([3]int{-1, 9, 20}), customC(), customD(), chain(8, 9, 20), chain(8, 0, 0), flat(9, 9, 9, 9, 9, 9, 9), flat(0, 0, 0, 0, 0, 0, 0),
		customWith(func(c *api.ShareCustom) { c.Nodes[7].Up = 6 }), customWith(func(c *api.ShareCustom) { c.Nodes[1].Up = 0 }),
		customWith(func(c *api.ShareCustom) { c.Nodes[7] = api.ShareNode{Up: 0, Weight: 9, Fixed: 20} }),
	} {
		if e := shares.Check(c); e != api.OK {
			t.Errorf("Check of %v: %d", c, e)
		}
		for _, got := range callAll(c, args{least: make([]int, len(c.Nodes)), fair: fairF()}) {
			want := of(api.ErrArg, "Weights", "Ask")[got.name]
			if got.name == "Falls" {
				want = api.ErrNone
			}
			if got.e != want {
				t.Errorf("%v: %s = %v, %d", c, got.name, got.result, got.e)
			}
		}
	}
}

// ErrArg of the functions for an argument each, and not of the others.
func TestWrongArgs(t *testing.T) {
	byNode := []string{"Split", "From", "Falls", "Exact", "Weights", "Ask"}
	errors(t, falling(), fitting(), nil)
	for _, n := range beyond(0, 7) {
		errors(t, falling(), argsWith(func(a *args) { a.node = n }), of(api.ErrArg, byNode...))
	}
	for _, n := range beyond(0, api.MaxSharePence) {
		errors(t, falling(), argsWith(func(a *args) { a.pence = n }), of(api.ErrArg, "Gets", "Keeps", "Split"))
		errors(t, falling(), argsWith(func(a *args) { a.coins = n }), of(api.ErrArg, "From"))
		for node := range falling().Nodes {
			errors(t, falling(), argsWith(func(a *args) { a.least[node] = n }), of(api.ErrArg, "Enough"))
		}
	}
	for _, list := range [][]int{nil, {}, {0}, make([]int, 7), make([]int, 9), make([]int, 1000)} {
		errors(t, falling(), argsWith(func(a *args) { a.least = list }), of(api.ErrArg, "Enough"))
	}
	byPays := []string{"Wrong", "Weights", "Ask"}
	for at := range fitting().old {
		for _, n := range beyond(0, 7) {
			errors(t, falling(), argsWith(func(a *args) { a.old[at].Node = n }), of(api.ErrArg, byPays...))
		}
		for _, n := range beyond(0, api.MaxSharePence) {
			errors(t, falling(), argsWith(func(a *args) { a.old[at].Pence = n }), of(api.ErrArg, byPays...))
			errors(t, falling(), argsWith(func(a *args) { a.old[at].Coins = n }), of(api.ErrArg, byPays...))
		}
	}
	errors(t, falling(), argsWith(func(a *args) { a.node = 0 }), both(of(api.ErrArg, "Weights", "Ask"), of(api.ErrNone, "Falls")))
	errors(t, falling(), argsWith(func(a *args) { a.node, a.old = 0, pays(pay(10, 4, 3)) }), both(of(api.ErrArg, "Weights", "Ask"), of(api.ErrNone, "Falls")))
	errors(t, alone(), args{node: 1, least: []int{0}}, of(api.ErrArg, byNode...))
}

// ErrMany before ErrArg, ErrArg before ErrNone; six payments are not too many.
func TestOrderOfErrors(t *testing.T) {
	byPays := []string{"Wrong", "Weights", "Ask"}
	for _, many := range []int{7, 8, 1000} {
		for _, p := range pays(pay(10, 5, 1), pay(10, 4, 2), pay(-1, 5, 6), pay(42, 8, 6), pay(42, 5, 401)) {
			errors(t, falling(), argsWith(func(a *args) { a.old = slices.Repeat(pays(p), many) }), of(api.ErrMany, byPays...))
			for _, n := range []int{-1, 0, 8} {
				_, e := shares.Weights(falling(), n, slices.Repeat(pays(p), many))
				_, f := shares.Ask(falling(), n, slices.Repeat(pays(p), many))
				if e != api.ErrMany || f != api.ErrMany {
					t.Errorf("of %d and %d payments: Weights: %d, Ask: %d", n, many, e, f)
				}
			}
		}
	}
	errors(t, falling(), argsWith(func(a *args) { a.old = slices.Repeat(pays(pay(10, 5, 1)), 6) }), nil)
	errors(t, falling(), argsWith(func(a *args) { a.old = append(slices.Repeat(pays(pay(42, 5, 7)), 5), pay(42, 5, -1)) }), of(api.ErrArg, byPays...))
	errors(t, falling(), argsWith(func(a *args) { a.old = pays(pay(10, 4, 3)) }), of(api.ErrNone, "Weights", "Ask"))
	errors(t, falling(), argsWith(func(a *args) { a.least = []int{400, 0, 0, 0, 0, 0, 0, 401} }), of(api.ErrArg, "Enough"))
	errors(t, falling(), argsWith(func(a *args) { a.node, a.coins = 8, 400 }), of(api.ErrArg, "Split", "From", "Falls", "Exact", "Weights", "Ask"))
}

// P10.5: ErrShare, and then the error of sales.Paid.
func TestSoldErrors(t *testing.T) {
	for _, change := range []func(f *api.SaleFair){
		func(f *api.SaleFair) { f.Day = 21 }, func(f *api.SaleFair) { f.Buyers = 2 }, func(f *api.SaleFair) { f.Pack = nil },
		func(f *api.SaleFair) { f.Bids[0].Pence = 100 }, func(f *api.SaleFair) { f.House.Floor = -1 },
	} {
		a := fitting()
		change(&a.fair)
		errors(t, falling(), a, of(api.ErrSale, "Sold"))
		if got, e := shares.Sold(custom([3]int{0, 0, 0}), a.fair); len(got) > 0 || e != api.ErrShare {
			t.Errorf("Sold = %v, %d", got, e)
		}
	}
}

// fixed is three nodes below the node 0, the last one of them without a Weight.
func fixed() api.ShareCustom {
	return custom([3]int{-1, 0, 0}, [3]int{0, 1, 5}, [3]int{0, 1, 5}, [3]int{0, 0, 4})
}

// tangled has nodes below nodes in no order.
func tangled() api.ShareCustom {
	return custom([3]int{-1, 0, 0}, [3]int{0, 1, 0}, [3]int{1, 1, 0}, [3]int{0, 1, 0}, [3]int{2, 1, 0}, [3]int{1, 2, 0})
}

// P10.2: each Fixed first, one after the other, as far as there are pence; only then the Weights.
func TestFixed(t *testing.T) {
	for pence, want := range map[int][]int{
		0: {0, 0, 0, 0}, 3: {3, 3, 0, 0}, 5: {5, 5, 0, 0}, 7: {7, 5, 2, 0}, 10: {10, 5, 5, 0}, 12: {12, 5, 5, 2}, 14: {14, 5, 5, 4},
		15: {15, 6, 5, 4}, 16: {16, 6, 6, 4}, 17: {17, 7, 6, 4}, 400: {400, 198, 198, 4},
	} {
		gets(t, fixed(), pence, want...)
	}
	without := custom([3]int{-1, 0, 0}, [3]int{0, 0, 3}, [3]int{0, 0, 2})
	gets(t, without, 4, 4, 3, 1)
	keeps(t, without, 4, 0, 3, 1)
	gets(t, without, 9, 9, 3, 2)
	keeps(t, without, 9, 4, 3, 2)
	keeps(t, without, 400, 395, 3, 2)
	gets(t, chain(8, 0, 5), 30, 30, 5, 5, 5, 5, 5, 5, 5)
	keeps(t, chain(8, 0, 5), 30, 25, 0, 0, 0, 0, 0, 0, 5)
	gets(t, chain(8, 1, 20), 30, 30, 30, 30, 30, 30, 30, 30, 30)
	keeps(t, chain(8, 1, 20), 30, 0, 0, 0, 0, 0, 0, 0, 30)
}

// P10.2: what is rounded down, and who gets the pence that are left: the first ones with a Weight.
func TestPenceLeft(t *testing.T) {
	for _, x := range []struct {
		weights []int
		pence   int
		want    []int
	}{
		{nil, 7, nil}, {[]int{0}, 7, []int{0}}, {[]int{3}, 7, []int{7}}, {[]int{0, 1, 0, 1, 1}, 5, []int{0, 2, 0, 2, 1}},
		{[]int{9, 1}, 1, []int{1, 0}}, {[]int{9, 1}, 2, []int{2, 0}}, {[]int{9, 1}, 9, []int{9, 0}}, {[]int{9, 1}, 10, []int{9, 1}},
		{[]int{1, 9}, 1, []int{1, 0}}, {[]int{1, 9}, 5, []int{1, 4}}, {[]int{1, 9}, 10, []int{1, 9}}, {[]int{1, 9}, 11, []int{2, 9}},
		{[]int{1, 1, 4, 4}, 2, []int{1, 1, 0, 0}}, {[]int{1, 1, 4, 4}, 3, []int{1, 0, 1, 1}}, {[]int{1, 1, 4, 4}, 7, []int{1, 1, 3, 2}},
		{[]int{9, 9, 9, 9, 9, 9, 9}, 6, []int{1, 1, 1, 1, 1, 1, 0}}, {[]int{9, 9, 9, 9, 9, 9, 9}, 400, []int{58, 57, 57, 57, 57, 57, 57}},
		{[]int{0, 0, 0, 0, 0, 0, 1}, 400, []int{0, 0, 0, 0, 0, 0, 400}},
	} {
		gets(t, flat(x.weights...), x.pence, append([]int{x.pence}, x.want...)...)
		left := x.pence
		for _, n := range x.want {
			left -= n
		}
		split(t, flat(x.weights...), 0, x.pence, left, x.want...)
		keeps(t, flat(x.weights...), x.pence, append([]int{left}, x.want...)...)
	}
}

// P10.2 to P10.4: nodes below nodes; Split is asked of any pence, not only of those that the node can get.
func TestNodesBelowNodes(t *testing.T) {
	gets(t, tangled(), 9, 9, 5, 2, 4, 2, 3)
	keeps(t, tangled(), 9, 0, 0, 0, 4, 2, 3)
	split(t, tangled(), 0, 9, 0, 5, 4)
	split(t, tangled(), 1, 5, 0, 2, 3)
	split(t, tangled(), 2, 400, 0, 400)
	split(t, tangled(), 3, 400, 400)
	split(t, tangled(), 5, 0, 0)
	split(t, customC(), 0, 2, 0, 2, 0, 0)
	split(t, customC(), 0, 400, 0, 3, 199, 198)
	split(t, customC(), 2, 100, 0, 67, 33)
	split(t, customC(), 1, 400, 400)
	split(t, chain(3, 0, 7), 1, 400, 393, 7)
	split(t, alone(), 0, 400, 400)
	gets(t, alone(), 400, 400)
	keeps(t, alone(), 0, 0)
}

// The Weight and the Fixed of the node 0 mean nothing.
func TestTheFirstNode(t *testing.T) {
	for _, c := range []api.ShareCustom{customC(), customD(), fixed(), tangled(), alone(), chain(8, 3, 2)} {
		other := api.ShareCustom{Nodes: slices.Clone(c.Nodes)}
		other.Nodes[0].Weight, other.Nodes[0].Fixed = api.MaxShareWeight, api.MaxShareFixed
		a := args{node: len(c.Nodes) - 1, pence: 57, coins: 9, least: make([]int, len(c.Nodes)), old: pays(pay(9, 0, 9)), fair: fairF()}
		if want, got := callAll(c, a), callAll(other, a); !reflect.DeepEqual(want, got) {
			t.Errorf("%v has %v, %v has %v", c, want, other, got)
		}
	}
}

// P10.5: what the buyers pay is divided, not what they bid.
func TestSold(t *testing.T) {
	sold(t, customC(), rivals(50, 42), 0, 3, 0, 0, 14, 6, 6, 13)
	sold(t, customC(), rivals(2, 99), 0, 2, 0, 0, 0, 0, 0, 0)
	sold(t, customC(), rivals(99), 0, 0, 0, 0, 0, 0, 0, 0)
	sold(t, customC(), api.SaleFair{}, 0, 0, 0, 0, 0, 0, 0, 0)
	sold(t, alone(), fairF(), 42)
	crowd := rivals(99, 99, 99, 99) // the last one of whom could have each barrel if another one did not win it
	crowd.House.Parts, crowd.House.Barrels, crowd.Pack = slices.Repeat(crowd.House.Parts, 3), []int{5, 5, 5}, []int{0, 1, 2}
	for buyer := range 3 {
		crowd.Bids[buyer].Barrels = []int{buyer}
	}
	crowd.Bids = append(crowd.Bids, api.SaleBid{Buyer: 3, Barrels: []int{1}, Pence: 99}, api.SaleBid{Buyer: 3, Barrels: []int{2}, Pence: 99})
	sold(t, alone(), crowd, 297)
	sold(t, customC(), crowd, 0, 3, 0, 0, 98, 49, 31, 116)
}

// P10.6: the least number, up to MaxSharePence; of no coins none.
func TestFrom(t *testing.T) {
	for _, x := range []struct {
		c                 api.ShareCustom
		node, coins, want int
	}{
		{customC(), 0, 0, 0}, {customC(), 0, 400, 400}, {customC(), 1, 3, 3}, {customC(), 1, 1, 1}, {customC(), 2, 1, 4}, {customC(), 3, 1, 5},
		{flat(1, 1), 1, 200, 399}, {flat(1, 1), 2, 200, 400}, {flat(1, 1), 1, 201, none}, {flat(1, 1), 2, 201, none}, {flat(1, 0), 2, 0, 0},
		{flat(1, 0), 2, 1, none}, {customD(), 2, 1, 2}, {customD(), 2, 2, 12}, {customD(), 3, 1, 3}, {customD(), 3, 400, none},
		{fixed(), 3, 4, 14}, {fixed(), 3, 5, none}, {fixed(), 2, 5, 10}, {fixed(), 2, 6, 16}, {alone(), 0, 400, 400}, {chain(8, 1, 0), 7, 400, 400},
	} {
		from(t, x.c, x.node, x.coins, x.want)
	}
}

// late has a node that falls first at 391 pence, and later if others get so many first.
func late(first int) api.ShareCustom {
	return custom([3]int{-1, 1, 0}, [3]int{0, 9, first}, [3]int{0, 5, 0}, [3]int{2, 7, 0}, [3]int{3, 9, 0}, [3]int{3, 1, 0}, [3]int{0, 4, 0}, [3]int{2, 4, 0})
}

// P10.7: also one penny more is at most MaxSharePence.
func TestFalls(t *testing.T) {
	falls(t, customD(), none, none, 2, none, none)
	falls(t, flat(1, 1, 1, 1, 1, 1, 1), none, none, none, none, none, none, none, none)
	falls(t, flat(0, 1, 0, 1, 4, 4), none, none, none, none, 2, none, none)
	falls(t, fixed(), none, none, none, none)
	falls(t, alone(), none)
	shifted := customD()
	shifted.Nodes[4].Fixed = 20
	falls(t, shifted, none, none, 22, none, none)
	for first, want := range map[int]int{0: 391, 7: 398, 8: 399, 9: none} {
		got, e := shares.Falls(late(first), 5)
		number(t, late(first), "Falls", got, e, want)
	}
}

// P10.8: without what is rounded, and without Fixed; 0 / 1 for a node without a Weight, also below one that has 0 / 1.
func TestExact(t *testing.T) {
	exact(t, alone(), 1, 1)
	exact(t, flat(2, 4, 0), 1, 1, 1, 3, 2, 3, 0, 1)
	exact(t, flat(6, 9, 3), 1, 1, 1, 3, 1, 2, 1, 6)
	exact(t, flat(0, 0), 1, 1, 0, 1, 0, 1)
	exact(t, flat(9), 1, 1, 1, 1)
	exact(t, fixed(), 1, 1, 1, 2, 1, 2, 0, 1)
	exact(t, chain(3, 0, 20), 1, 1, 0, 1, 0, 1)
	exact(t, chain(8, 9, 20), 1, 1, 1, 1, 1, 1, 1, 1, 1, 1, 1, 1, 1, 1, 1, 1)
	exact(t, custom([3]int{-1, 0, 0}, [3]int{0, 0, 1}, [3]int{1, 5, 0}, [3]int{0, 7, 0}, [3]int{3, 0, 0}), 1, 1, 0, 1, 0, 1, 1, 1, 0, 1)
	exact(t, tangled(), 1, 1, 1, 2, 1, 6, 1, 2, 1, 6, 1, 3)
	exact(t, custom([3]int{-1, 0, 0}, [3]int{0, 3, 0}, [3]int{0, 1, 0}, [3]int{1, 2, 0}, [3]int{1, 4, 0}), 1, 1, 3, 4, 1, 4, 1, 4, 1, 2)
}

// P10.9: the least number, though a node may keep less of more; up to MaxSharePence.
func TestEnough(t *testing.T) {
	enough(t, alone(), 0, 0)
	enough(t, alone(), 400, 400)
	enough(t, flat(1, 1), 0, 0, 0, 0)
	enough(t, flat(1, 1), 400, 0, 200, 200)
	enough(t, flat(1, 1), 399, 0, 200, 199)
	enough(t, flat(1, 1), none, 0, 200, 201)
	enough(t, flat(1, 1), none, 1, 0, 0)
	enough(t, flat(1, 1), none, 400, 400, 400)
	enough(t, customD(), 2, 0, 0, 1, 0, 0)
	enough(t, customD(), 3, 0, 0, 0, 1, 0)
	enough(t, customD(), 4, 0, 0, 1, 1, 0)
	enough(t, flat(1, 0), none, 0, 0, 1)
	enough(t, fixed(), 14, 0, 0, 0, 4)
	enough(t, chain(2, 0, 5), 12, 7, 5)
	enough(t, customC(), 3, 0, 3, 0, 0, 0, 0, 0, 0)
	enough(t, customC(), none, 0, 4, 0, 0, 0, 0, 0, 0)
	enough(t, customC(), none, 0, 0, 1, 0, 0, 0, 0, 0) // which keeps nothing, whatever it gets
}

// P10.10: each payment is known by its number, also if it is there twice.
func TestWrong(t *testing.T) {
	c := customC()
	wrong(t, c, nil)
	wrong(t, c, pays(pay(42, 4, 13), pay(42, 4, 13), pay(42, 4, 14), pay(42, 4, 15)), 0, 1, 3)
	wrong(t, c, pays(pay(400, 0, 400), pay(0, 0, 0), pay(1, 0, 0), pay(0, 0, 1)), 2, 3)
	wrong(t, c, pays(pay(0, 7, 0), pay(42, 3, 19), pay(42, 3, 0), pay(42, 7, 13), pay(42, 1, 3), pay(42, 1, 2)), 2, 5)
	wrong(t, c, slices.Repeat(pays(pay(400, 7, 400)), 6), 0, 1, 2, 3, 4, 5)
}

// P10.11: also the Weights that it has not, and 0; payments of all nodes tell of it.
func TestWeights(t *testing.T) {
	two, every := chain(2, 1, 0), []int{0, 1, 2, 3, 4, 5, 6, 7, 8, 9}
	weights(t, two, 1, nil, every...)
	weights(t, two, 1, pays(pay(0, 1, 0), pay(10, 0, 10)), every...)
	weights(t, two, 1, pays(pay(10, 1, 10)), every[1:]...)
	weights(t, two, 1, pays(pay(10, 1, 0)), 0)
	weights(t, two, 1, pays(pay(10, 1, 5)))
	weights(t, two, 1, pays(pay(10, 0, 9)))
	weights(t, two, 1, pays(pay(10, 1, 10), pay(10, 1, 0)))
	weights(t, flat(1, 1), 2, pays(pay(10, 2, 7)), 3)
	weights(t, flat(1, 1), 2, pays(pay(10, 1, 2)), 4, 5, 6, 7, 8)
	weights(t, flat(1, 1), 2, pays(pay(10, 1, 2), pay(10, 2, 8)), 4, 5, 6, 7, 8)
	weights(t, flat(1, 1), 1, pays(pay(2, 2, 0)), 2, 3, 4, 5, 6, 7, 8, 9)
	weights(t, flat(1, 1), 1, pays(pay(400, 1, 0)), 0)
	weights(t, flat(1, 1), 1, pays(pay(400, 1, 360)), 9)
	weights(t, customC(), 3, pays(pay(43, 4, 14)), 1)
	weights(t, customC(), 1, pays(pay(42, 4, 9)), 1)
	weights(t, customC(), 1, pays(pay(42, 4, 14)), 0)
	weights(t, customC(), 7, pays(pay(42, 6, 6)), 4)
	weights(t, customC(), 7, pays(pay(42, 5, 6)), every...)
}

// P10.12: 0 if there is one alone, whatever of it is known; each other one must be told from each.
func TestAsk(t *testing.T) {
	two := chain(2, 1, 0)
	ask(t, two, 1, nil, none)
	ask(t, two, 1, pays(pay(10, 1, 10)), none)
	ask(t, two, 1, pays(pay(10, 1, 0)), 0)
	ask(t, two, 1, pays(pay(10, 1, 5)), none)
	ask(t, flat(1, 1), 2, pays(pay(10, 2, 7)), 0)
	ask(t, flat(1, 1), 2, nil, 50)
	ask(t, flat(1, 0), 2, nil, 50)
	ask(t, flat(0, 1), 2, nil, none)
	ask(t, customC(), 5, pays(pay(42, 4, 13)), none)
	for first, want := range map[int]int{0: 389, 10: 399, 11: 400, 12: none} {
		c := custom([3]int{-1, 5, 0}, [3]int{0, 9, first}, [3]int{0, 1, 0}, [3]int{2, 5, 0}, [3]int{2, 1, 0}, [3]int{4, 5, 0}, [3]int{0, 6, 0}, [3]int{5, 1, 0})
		ask(t, c, 4, nil, want)
	}
}

// R3 and R4: empty lists are nil lists; arguments are not changed, and a change of a result, or of what lies behind it, changes nothing else.
func TestMemory(t *testing.T) {
	a := argsWith(func(a *args) { a.old = nil })
	b := argsWith(func(a *args) { a.old = []api.SharePay{} })
	if want, got := callAll(customC(), a), callAll(customC(), b); !reflect.DeepEqual(want, got) {
		t.Errorf("without payments %v, of an empty list %v", want, got)
	}
	for _, make := range []func() api.ShareCustom{customC, func() api.ShareCustom { return chain(8, 2, 1) }, func() api.ShareCustom { return flat(1, 0, 2, 0, 3, 0, 9) }} {
		c, a := make(), argsWith(func(a *args) { a.old = pays(pay(9, 0, 9), pay(0, 5, 0)) })
		c.Nodes = append(slices.Grow(c.Nodes, 3), api.ShareNode{Up: 7}, api.ShareNode{Up: 7})[:len(c.Nodes)]
		a.old = append(slices.Grow(a.old, 3), pay(7, 7, 7), pay(7, 7, 7))[:2]
		a.least = append(slices.Grow(a.least, 3), 7, 7)[:8]
		first := callAll(make(), a)
		for range 2 {
			for i, got := range callAll(c, a) {
				if !reflect.DeepEqual(got, first[i]) {
					t.Errorf("%v: %s = %v, and then %v", c, got.name, first[i], got)
				}
				spoil(got.result)
			}
			behind := slices.Equal(c.Nodes[8:][:2:2], []api.ShareNode{{Up: 7}, {Up: 7}}) && slices.Equal(a.least[8:][:2], []int{7, 7}) &&
				slices.Equal(a.old[2:][:2], pays(pay(7, 7, 7), pay(7, 7, 7)))
			if !behind || !reflect.DeepEqual(c, make()) || !slices.Equal(a.least, fitting().least) || !slices.Equal(a.old, pays(pay(9, 0, 9), pay(0, 5, 0))) ||
				!reflect.DeepEqual(a.fair, fairF()) {
				t.Fatalf("the arguments are changed: %v, %v", c, a)
			}
		}
	}
}

// spoil changes the list of a result, and what lies behind it.
func spoil(result any) {
	list, _ := result.([]int)
	if p, is := result.(parts); is {
		list = p.below
	}
	for i := range list[:cap(list)] {
		list[:cap(list)][i] = -9
	}
}
