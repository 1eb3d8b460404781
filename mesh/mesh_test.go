package mesh_test

import (
	"math"
	"reflect"
	"slices"
	"testing"

	"almadraba/api"
	"almadraba/mesh"
)

func hole(from, low, high, hours int) api.MeshHole {
	return api.MeshHole{From: from, Rate: api.Span{Low: low, High: high}, Hours: hours}
}

func pair(a, b int) api.MeshPair { return api.MeshPair{A: a, B: b} }

// netN is N of the chapter's examples.
func netN() api.MeshNet {
	return api.MeshNet{
		Menders: 1,
		Holes:   []api.MeshHole{hole(0, 2, 3, 2), hole(0, 5, 6, 3), hole(1, 4, 8, 1)},
		Pairs:   []api.MeshPair{pair(0, 2)},
	}
}

// netM is M of the chapter's examples.
func netM() api.MeshNet {
	return netWith(func(n *api.MeshNet) { n.Menders = 2 })
}

// netWith is N with something changed.
func netWith(change func(n *api.MeshNet)) api.MeshNet {
	n := netN()
	change(&n)
	return n
}

// holes is a net without pairs.
func holes(menders int, list ...api.MeshHole) api.MeshNet {
	return api.MeshNet{Menders: menders, Holes: list}
}

// largest is a net with as much of everything as there can be.
func largest() api.MeshNet {
	return api.MeshNet{
		Menders: 3, Holes: slices.Repeat([]api.MeshHole{hole(20, 0, 20, 9)}, 6),
		Pairs: []api.MeshPair{pair(5, 4), pair(5, 3), pair(4, 2), pair(3, 2), pair(2, 1), pair(2, 0), pair(1, 0), pair(1, 0)},
	}
}

// args is one of each kind of argument beside a net.
type args struct {
	order []int
	hole  int
}

// answer is what a call returned.
type answer struct {
	name   string
	result any
	e      api.Errno
}

// callAll calls each function but Check.
func callAll(n api.MeshNet, a args) []answer {
	good, e0 := mesh.Good(n, a.order)
	times, e1 := mesh.Times(n, a.order)
	lost, e2 := mesh.Lost(n, a.order)
	least, e3 := mesh.Least(n)
	order, e4 := mesh.Order(n)
	first, e5 := mesh.First(n, a.hole)
	done, e6 := mesh.Done(n)
	rule, e7 := mesh.Rule(n)
	over, e8 := mesh.Over(n)
	regret, e9 := mesh.Regret(n, a.order)
	calm, e10 := mesh.Calm(n)
	more, e11 := mesh.More(n)
	rope, e12 := mesh.Rope(n)
	return []answer{
		{"Good", good, e0}, {"Times", times, e1}, {"Lost", lost, e2}, {"Least", least, e3}, {"Order", order, e4},
		{"First", first, e5}, {"Done", done, e6}, {"Rule", rule, e7}, {"Over", over, e8}, {"Regret", regret, e9},
		{"Calm", calm, e10}, {"More", more, e11}, {"Rope", rope, e12},
	}
}

// isZero reports whether a result is a zero value, or an empty list.
func isZero(result any) bool {
	v := reflect.ValueOf(result)
	return v.IsZero() || v.Kind() == reflect.Slice && v.Len() == 0
}

// isError checks that the calls by these names return nothing but an error, and that all others return none.
func isError(t *testing.T, n api.MeshNet, a args, want api.Errno, names ...string) {
	t.Helper()
	for _, got := range callAll(n, a) {
		is := slices.Contains(names, got.name)
		if is && (got.e != want || !isZero(got.result)) {
			t.Errorf("%v: %s with %v = %v, %d, not the error %d", n, got.name, a, got.result, got.e, want)
		}
		if !is && got.e != api.OK {
			t.Errorf("%v: %s with %v: %d", n, got.name, a, got.e)
		}
	}
}

// all has the names of all functions but Check.
func all() []string {
	var names []string
	for _, got := range callAll(netN(), args{}) {
		names = append(names, got.name)
	}
	return names
}

// number checks a number that was returned.
func number(t *testing.T, n api.MeshNet, name string, got int, e api.Errno, want int) {
	t.Helper()
	if got != want || e != api.OK {
		t.Fatalf("%v: %s = %d, %d, not %d", n, name, got, e, want)
	}
}

// list checks a list that was returned.
func list(t *testing.T, n api.MeshNet, name string, got []int, e api.Errno, want ...int) {
	t.Helper()
	if !slices.Equal(got, want) || e != api.OK {
		t.Fatalf("%v: %s = %v, %d, not %v", n, name, got, e, want)
	}
}

// good checks what Good returns.
func good(t *testing.T, n api.MeshNet, want bool, order ...int) {
	t.Helper()
	if is, e := mesh.Good(n, order); is != want || e != api.OK {
		t.Fatalf("%v: Good of %v = %t, %d, not %t", n, order, is, e, want)
	}
}

// times checks what Times returns.
func times(t *testing.T, n api.MeshNet, order []int, want ...int) {
	t.Helper()
	got, e := mesh.Times(n, order)
	list(t, n, "Times", got, e, want...)
}

// lost checks what Lost returns.
func lost(t *testing.T, n api.MeshNet, order []int, low, high int) {
	t.Helper()
	if got, e := mesh.Lost(n, order); got.Low != low || got.High != high || e != api.OK {
		t.Fatalf("%v: Lost of %v = %v, %d, not %d to %d", n, order, got, e, low, high)
	}
}

// Of each function the tests need what it must return.

func leastOf(t *testing.T, n api.MeshNet) int   { t.Helper(); return must[int](t, n)(mesh.Least(n)) }
func orderOf(t *testing.T, n api.MeshNet) []int { t.Helper(); return must[[]int](t, n)(mesh.Order(n)) }
func doneOf(t *testing.T, n api.MeshNet) int    { t.Helper(); return must[int](t, n)(mesh.Done(n)) }
func ruleOf(t *testing.T, n api.MeshNet) []int  { t.Helper(); return must[[]int](t, n)(mesh.Rule(n)) }
func overOf(t *testing.T, n api.MeshNet) int    { t.Helper(); return must[int](t, n)(mesh.Over(n)) }
func calmOf(t *testing.T, n api.MeshNet) []int  { t.Helper(); return must[[]int](t, n)(mesh.Calm(n)) }
func moreOf(t *testing.T, n api.MeshNet) int    { t.Helper(); return must[int](t, n)(mesh.More(n)) }
func ropeOf(t *testing.T, n api.MeshNet) int    { t.Helper(); return must[int](t, n)(mesh.Rope(n)) }

func firstOf(t *testing.T, n api.MeshNet, hole int) int {
	t.Helper()
	return must[int](t, n)(mesh.First(n, hole))
}

func timesOf(t *testing.T, n api.MeshNet, order []int) []int {
	t.Helper()
	return must[[]int](t, n)(mesh.Times(n, order))
}

func lossOf(t *testing.T, n api.MeshNet, order []int) int {
	t.Helper()
	return must[api.Span](t, n)(mesh.Lost(n, order)).High
}

func regretOf(t *testing.T, n api.MeshNet, order []int) int {
	t.Helper()
	return must[int](t, n)(mesh.Regret(n, order))
}

// must returns a function that returns what was returned without an error.
func must[T any](t *testing.T, n api.MeshNet) func(T, api.Errno) T {
	return func(result T, e api.Errno) T {
		t.Helper()
		if e != api.OK {
			t.Fatalf("%v: the error %d", n, e)
		}
		return result
	}
}

// The examples of the chapter, and the one of the document.
func TestExamples(t *testing.T) {
	n, m := netN(), netM()
	good(t, n, true, 0, 2, 1)
	good(t, n, false, 2, 0, 1)
	times(t, n, []int{0, 1, 2}, 2, 5, 6)
	times(t, n, []int{1, 0, 2}, 5, 3, 6)
	lost(t, n, []int{0, 1, 2}, 49, 76)
	lost(t, n, []int{0, 2, 1}, 42, 58)
	least, e := mesh.Least(n)
	number(t, n, "Least", least, e, 58)
	order, e := mesh.Order(n)
	list(t, n, "Order", order, e, 0, 2, 1)
	first, e := mesh.First(n, 0)
	number(t, n, "First", first, e, api.Surely)
	first, e = mesh.First(n, 1)
	number(t, n, "First", first, e, api.Never)
	done, e := mesh.Done(n)
	number(t, n, "Done", done, e, 6)
	done, e = mesh.Done(m)
	number(t, m, "Done", done, e, 3)
	rule, e := mesh.Rule(n)
	list(t, n, "Rule", rule, e, 1, 0, 2)
	over, e := mesh.Over(n)
	number(t, n, "Over", over, e, 15)
	regret, e := mesh.Regret(n, []int{0, 2, 1})
	number(t, n, "Regret", regret, e, 0)
	regret, e = mesh.Regret(n, []int{1, 0, 2})
	number(t, n, "Regret", regret, e, 18)
	calm, e := mesh.Calm(n)
	list(t, n, "Calm", calm, e, 0, 2, 1)
	more, e := mesh.More(n)
	number(t, n, "More", more, e, 18)
	least, e = mesh.Least(m)
	number(t, m, "Least", least, e, 40)
	order, e = mesh.Order(m)
	list(t, m, "Order", order, e, 0, 1, 2)
	rope, e := mesh.Rope(n)
	number(t, n, "Rope", rope, e, 0)
}

// beyond has numbers that are not from one to another one.
func beyond(low, high int) []int {
	return []int{low - 1, high + 1, -7, math.MinInt, math.MaxInt}
}

// wrongRates has spans that are no rates, each for one reason.
func wrongRates() []api.Span {
	return []api.Span{
		{Low: -1, High: 3}, {Low: 2, High: 21}, {Low: 21, High: 21}, {Low: 3, High: 2}, {Low: -1, High: -1}, {Low: 1, High: 0},
		{Low: math.MinInt, High: 3}, {Low: 0, High: math.MaxInt}, {Low: math.MaxInt, High: math.MinInt}, {Low: math.MinInt, High: math.MaxInt},
	}
}

// wrongPairs has lists of pairs that N cannot have, each for one reason.
func wrongPairs() [][]api.MeshPair {
	lists := [][]api.MeshPair{
		{pair(0, 0)}, {pair(2, 2)}, {pair(0, 1), pair(1, 0)}, {pair(0, 2), pair(2, 1), pair(1, 0)}, {pair(2, 1), pair(1, 2)},
		{pair(0, 1), pair(0, 2), pair(1, 2), pair(2, 1)}, slices.Repeat([]api.MeshPair{pair(0, 1)}, 9),
	}
	for _, n := range beyond(0, 2) {
		lists = append(lists, []api.MeshPair{pair(n, 0)}, []api.MeshPair{pair(0, n)}, []api.MeshPair{pair(0, 1), pair(n, n)})
	}
	return lists
}

// invalid has nets that are not valid, each for one reason.
func invalid() []api.MeshNet {
	nets := []api.MeshNet{{}, {Menders: 1, Pairs: []api.MeshPair{pair(0, 0)}}, {Menders: 1, Pairs: []api.MeshPair{pair(0, 1)}}}
	add := func(change func(n *api.MeshNet)) { nets = append(nets, netWith(change)) }
	for _, m := range beyond(1, api.MaxMeshMenders) {
		add(func(n *api.MeshNet) { n.Menders = m })
		nets = append(nets, api.MeshNet{Menders: m})
	}
	for _, m := range beyond(0, api.MaxMeshHour) {
		add(func(n *api.MeshNet) { n.Holes[0].From = m })
		add(func(n *api.MeshNet) { n.Holes[2].From = m })
	}
	for _, m := range beyond(1, api.MaxMeshHours) {
		add(func(n *api.MeshNet) { n.Holes[1].Hours = m })
	}
	for _, s := range wrongRates() {
		add(func(n *api.MeshNet) { n.Holes[0].Rate = s })
		add(func(n *api.MeshNet) { n.Holes[2].Rate = s })
	}
	for _, l := range wrongPairs() {
		add(func(n *api.MeshNet) { n.Pairs = l })
	}
	add(func(n *api.MeshNet) { n.Holes = n.Holes[:2] })
	add(func(n *api.MeshNet) { n.Holes, n.Pairs = slices.Repeat(n.Holes, 3)[:7], nil })
	add(func(n *api.MeshNet) { n.Pairs = slices.Repeat(n.Pairs, 9) })
	most := largest()
	most.Pairs[7] = pair(0, 5)
	return append(nets, most)
}

// P4.1, and ErrMesh before all others.
func TestInvalidNets(t *testing.T) {
	for i, n := range invalid() {
		if e := mesh.Check(n); e != api.ErrMesh {
			t.Errorf("%d: Check of %v: %d", i, n, e)
		}
		isError(t, n, args{}, api.ErrMesh, all()...)
		isError(t, n, args{order: []int{0, 1, 2}, hole: 1}, api.ErrMesh, all()...)
		isError(t, n, args{order: []int{-1, 9}, hole: -1}, api.ErrMesh, all()...)
	}
}

// P4.1: what is just valid.
func TestValidNets(t *testing.T) {
	nets := []api.MeshNet{
		netN(), netM(), largest(), {Menders: 1}, {Menders: 3}, holes(1, hole(0, 0, 0, 1)), holes(3, hole(20, 20, 20, 9)),
		holes(2, slices.Repeat([]api.MeshHole{hole(0, 0, 20, 9)}, 6)...),
		netWith(func(n *api.MeshNet) { n.Pairs = slices.Repeat(n.Pairs, 8) }),
		netWith(func(n *api.MeshNet) { n.Pairs = []api.MeshPair{pair(2, 1), pair(1, 0), pair(2, 0)} }),
		netWith(func(n *api.MeshNet) { n.Pairs = nil }),
	}
	for i, n := range nets {
		if e := mesh.Check(n); e != api.OK {
			t.Errorf("%d: Check of %v: %d", i, n, e)
		}
	}
}

// wrongOrders has lists of numbers that are no orders of N.
func wrongOrders() [][]int {
	return [][]int{
		nil, {0}, {0, 1}, {0, 2, 1, 3}, {0, 2, 1, 0}, {0, 0, 2}, {0, 1, 1}, {0, 2, 2}, {1, 1, 1}, {2, 0, 1}, {2, 1, 0}, {1, 2, 0},
		{0, 1, 3}, {0, 1, -1}, {-1, 0, 1}, {0, 2, math.MaxInt}, {math.MinInt, 0, 2}, make([]int, 1000),
	}
}

// P4.2: all lists of numbers, and ErrArg for each other function.
func TestWrongOrders(t *testing.T) {
	for _, order := range wrongOrders() {
		good(t, netN(), false, order...)
		isError(t, netN(), args{order: order}, api.ErrArg, "Times", "Lost", "Regret")
	}
	for _, order := range [][]int{{0, 1, 2}, {0, 2, 1}, {1, 0, 2}} {
		good(t, netN(), true, order...)
		isError(t, netN(), args{order: order}, api.OK)
	}
}

// ErrArg for numbers of holes that the net does not have.
func TestWrongHoles(t *testing.T) {
	for _, m := range beyond(0, 2) {
		isError(t, netN(), args{order: []int{0, 1, 2}, hole: m}, api.ErrArg, "First")
	}
	isError(t, netM(), args{hole: 3}, api.ErrArg, "Times", "Lost", "Regret", "First")
}

// A net without holes, and with each number of menders.
func TestNoHoles(t *testing.T) {
	for menders := 1; menders <= api.MaxMeshMenders; menders++ {
		n := api.MeshNet{Menders: menders}
		for _, got := range callAll(n, args{}) {
			want := api.OK
			switch {
			case got.name == "First":
				want = api.ErrArg
			case got.name == "Rope":
				want = api.ErrNone
			case got.name == "More" && menders == 3:
				want = api.ErrMany
			}
			if got.name != "Good" && !isZero(got.result) || got.e != want {
				t.Errorf("%v: %s = %v, %d, not the error %d", n, got.name, got.result, got.e, want)
			}
		}
		good(t, n, true)
		good(t, n, false, 0)
	}
}

// P4.13 and P4.14: their errors.
func TestNoMoreMendersAndNoPairs(t *testing.T) {
	n := netWith(func(n *api.MeshNet) { n.Menders = 3 })
	isError(t, n, args{order: []int{0, 1, 2}}, api.ErrMany, "More")
	n = netWith(func(n *api.MeshNet) { n.Pairs = nil })
	isError(t, n, args{order: []int{0, 1, 2}}, api.ErrNone, "Rope")
}

// P4.3: the menders wait for holes that are not torn yet, and for those behind which they must be mended.
func TestTimes(t *testing.T) {
	n := holes(1, hole(5, 1, 2, 3), hole(0, 1, 1, 2))
	times(t, n, []int{0, 1}, 8, 10) // the mender waits for the hole 0, and does not mend the hole 1 meanwhile
	times(t, n, []int{1, 0}, 8, 2)
	lost(t, n, []int{0, 1}, 13, 16)
	n.Menders = 2
	times(t, n, []int{0, 1}, 8, 2)
	n.Pairs = []api.MeshPair{pair(0, 1)}
	times(t, n, []int{0, 1}, 8, 10)

	n = holes(2, hole(0, 0, 1, 4), hole(0, 0, 1, 2), hole(0, 0, 1, 1), hole(0, 0, 1, 1))
	times(t, n, []int{0, 1, 2, 3}, 4, 2, 3, 4)
	n.Pairs = []api.MeshPair{pair(0, 2)}
	times(t, n, []int{0, 1, 2, 3}, 4, 2, 5, 5) // the mender 1 waits for the hole 0; the hole 3 goes to the mender 0
	n.Menders = 3
	times(t, n, []int{0, 1, 2, 3}, 4, 2, 5, 3) // the mender 2 has the hole 2, the mender 1 the hole 3
	times(t, n, []int{0, 1, 3, 2}, 4, 2, 5, 1)

	n = largest()
	order := []int{5, 4, 3, 2, 1, 0}
	good(t, n, true, order...)
	times(t, n, order, 65, 56, 47, 38, 38, 29)
	lost(t, n, order, 0, 20*(9+18+18+27+36+45))
}

// P4.6 and P4.7: of several best orders the first one; whether all begin with a hole.
func TestSeveralBestOrders(t *testing.T) {
	n := holes(1, hole(0, 0, 4, 2), hole(0, 0, 2, 1), hole(0, 0, 1, 1)) // the holes 0 and 1 are alike for the rule
	order, e := mesh.Order(n)
	list(t, n, "Order", order, e, 0, 1, 2)
	for hole, want := range []int{api.Perhaps, api.Perhaps, api.Never} {
		first, e := mesh.First(n, hole)
		number(t, n, "First", first, e, want)
	}
	n.Pairs = []api.MeshPair{pair(1, 0)}
	order, e = mesh.Order(n)
	list(t, n, "Order", order, e, 1, 0, 2)
	for hole, want := range []int{api.Never, api.Surely, api.Never} {
		first, e := mesh.First(n, hole)
		number(t, n, "First", first, e, want)
	}
	one := holes(2, hole(3, 0, 0, 1))
	first, e := mesh.First(one, 0)
	number(t, one, "First", first, e, api.Surely)
}

// P4.8: what is done soonest need not be a best order.
func TestDone(t *testing.T) {
	n := holes(2, hole(0, 0, 9, 2), hole(0, 0, 9, 2), hole(0, 0, 1, 4))
	done, e := mesh.Done(n)
	number(t, n, "Done", done, e, 4)
	order, e := mesh.Order(n)
	list(t, n, "Order", order, e, 0, 1, 2)
	times(t, n, order, 2, 2, 6)
	n = holes(3, hole(20, 0, 0, 9))
	done, e = mesh.Done(n)
	number(t, n, "Done", done, e, 29)
}

// P4.9: rates that are divided exactly, of several the first one, and only behind what must be mended before.
func TestRule(t *testing.T) {
	n := holes(1, hole(0, 0, 10, 6), hole(0, 0, 5, 3), hole(0, 9, 12, 7), hole(0, 0, 15, 9), hole(20, 0, 2, 1), hole(0, 0, 0, 9))
	rule, e := mesh.Rule(n)
	list(t, n, "Rule", rule, e, 4, 2, 0, 1, 3, 5) // 10 by 6, 5 by 3 and 15 by 9 are the same
	n.Pairs = []api.MeshPair{pair(5, 4), pair(3, 2)}
	rule, e = mesh.Rule(n)
	list(t, n, "Rule", rule, e, 0, 1, 3, 2, 5, 4)
	n = holes(2, hole(0, 0, 19, 9), hole(0, 0, 17, 8)) // only the remainders differ
	rule, e = mesh.Rule(n)
	list(t, n, "Rule", rule, e, 1, 0)
}

// P4.11 and P4.12: the truths are not all at their ends alike.
func TestRegret(t *testing.T) {
	n := holes(1, hole(0, 0, 10, 2), hole(0, 4, 4, 1))
	for _, x := range []struct {
		order []int
		want  int
	}{{[]int{0, 1}, 8}, {[]int{1, 0}, 2}} { // the hole 0 costs 1 hour more or the hole 1 2 hours more
		regret, e := mesh.Regret(n, x.order)
		number(t, n, "Regret", regret, e, x.want)
	}
	calm, e := mesh.Calm(n)
	list(t, n, "Calm", calm, e, 1, 0)
	order, e := mesh.Order(n)
	list(t, n, "Order", order, e, 0, 1)
	n.Pairs = []api.MeshPair{pair(0, 1)} // there is no other order
	regret, e := mesh.Regret(n, []int{0, 1})
	number(t, n, "Regret", regret, e, 0)
	n = holes(1, hole(0, 1, 3, 1), hole(0, 1, 3, 1)) // both have the same regret
	calm, e = mesh.Calm(n)
	list(t, n, "Calm", calm, e, 0, 1)
}

// P4.14: of several the first one; a pair that is there twice does not go.
func TestRope(t *testing.T) {
	n := holes(1, hole(0, 0, 1, 9), hole(0, 0, 20, 1), hole(0, 0, 9, 1))
	for _, x := range []struct {
		pairs []api.MeshPair
		want  int
	}{
		{[]api.MeshPair{pair(0, 2), pair(0, 1)}, 1}, {[]api.MeshPair{pair(0, 1), pair(0, 2)}, 0}, {[]api.MeshPair{pair(1, 2), pair(1, 0)}, 0},
		{[]api.MeshPair{pair(0, 1), pair(0, 2), pair(0, 1)}, 1}, {[]api.MeshPair{pair(1, 0), pair(0, 2)}, 1},
	} {
		n.Pairs = x.pairs
		rope, e := mesh.Rope(n)
		number(t, n, "Rope", rope, e, x.want)
	}
}

// R3 and R4: empty lists are nil lists, results are new memory, and no argument is changed.
func TestMemory(t *testing.T) {
	n, a := largest(), args{order: []int{5, 4, 3, 2, 1, 0}}
	empty := api.MeshNet{Menders: 1, Holes: []api.MeshHole{}, Pairs: []api.MeshPair{}}
	for i, got := range callAll(empty, args{order: []int{}}) {
		if want := callAll(api.MeshNet{Menders: 1}, args{})[i]; got.e != want.e || isZero(got.result) != isZero(want.result) {
			t.Errorf("%s of empty lists = %v, of nil lists %v", got.name, got, want)
		}
	}
	for range 2 {
		for _, got := range callAll(n, a) {
			if l, is := got.result.([]int); is {
				l = l[:cap(l)]
				for i := range l {
					l[i] = -9
				}
			}
		}
		if want := largest(); !reflect.DeepEqual(n, want) || !slices.Equal(a.order, []int{5, 4, 3, 2, 1, 0}) {
			t.Fatalf("the arguments are changed: %v, %v", n, a)
		}
	}
}
