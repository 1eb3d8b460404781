package cuts_test

import (
	"math"
	"reflect"
	"slices"
	"testing"

	"almadraba/api"
	"almadraba/cuts"
)

const whole = api.CutNone

func span(low, high int) api.Span { return api.Span{Low: low, High: high} }

// part is a part of another one, that weighs from low to high; nothing of it is lost, and it is free.
func part(of, low, high int) api.CutPart { return api.CutPart{Of: of, Weight: span(low, high)} }

// loses is a part of which from low to high is lost when it is cut.
func loses(p api.CutPart, low, high int) api.CutPart {
	p.Waste = span(low, high)
	return p
}

// pays is a part for which so many pence a pound are paid.
func pays(p api.CutPart, pence int) api.CutPart {
	p.Pence = pence
	return p
}

// tableT is T of the chapter's examples.
func tableT() []api.CutPart {
	return []api.CutPart{
		pays(loses(part(whole, 20, 24), 1, 3), 2), pays(loses(part(0, 8, 12), 0, 2), 3), pays(part(0, 9, 10), 4),
		pays(part(1, 6, 7), 6), pays(part(1, 0, 30), 1),
	}
}

// tableU is U of the chapter's examples.
func tableU() []api.CutPart {
	return tableWith(func(t []api.CutPart) { t[1].Weight = span(0, 5) })
}

// tableWith is T with something changed.
func tableWith(change func(t []api.CutPart)) []api.CutPart {
	t := tableT()
	change(t)
	return t
}

// heavy is a table with a truth, but none in which the part 0 weighs more than 30: it has no parting with one more piece.
func heavy() []api.CutPart {
	return []api.CutPart{loses(part(whole, 30, 30), 20, 30), loses(part(0, 10, 10), 10, 10), part(1, 0, 0)}
}

// largest is a table with as much of everything as there can be, and a row of parts each of which is cut of the one before.
func largest() []api.CutPart {
	var t []api.CutPart
	for number := range api.MaxCutParts {
		t = append(t, pays(loses(part(number-1, 0, api.MaxCutWeight), 0, api.MaxCutWeight), api.MaxCutPence))
	}
	return t
}

// args is one of each kind of argument beside a table.
type args struct {
	weights    []int
	part       int
	cut, other []int
}

// argsT are arguments that fit T.
func argsT() args {
	return args{weights: []int{21, 8, 10, 6, 2}, part: 1, cut: []int{0, 1}, other: []int{0}}
}

// answer is what a call returned.
type answer struct {
	name   string
	result any
	e      api.Errno
}

// callAll calls each function but Check.
func callAll(t []api.CutPart, a args) []answer {
	holds, e0 := cuts.Holds(t, a.weights)
	weight, e1 := cuts.Weight(t, a.part)
	lost, e2 := cuts.Lost(t, a.part)
	fish, e3 := cuts.Whole(t)
	change, e4 := cuts.Change(t)
	fix, e5 := cuts.Fix(t)
	changed, e6 := cuts.Changed(t, a.part)
	price, e7 := cuts.Price(t, a.cut)
	cut, e8 := cuts.Cut(t)
	gain, e9 := cuts.Gain(t, a.part)
	rank, e10 := cuts.Rank(t, a.cut, a.other)
	return []answer{
		{"Holds", holds, e0}, {"Weight", weight, e1}, {"Lost", lost, e2}, {"Whole", fish, e3}, {"Change", change, e4},
		{"Fix", fix, e5}, {"Changed", changed, e6}, {"Price", price, e7}, {"Cut", cut, e8}, {"Gain", gain, e9}, {"Rank", rank, e10},
	}
}

// isZero reports whether a result is a zero value, or an empty list.
func isZero(result any) bool {
	v := reflect.ValueOf(result)
	return v.IsZero() || v.Kind() == reflect.Slice && v.Len() == 0
}

// errors checks that each call by a name returns nothing but its error, and that all others return none.
func errors(t *testing.T, table []api.CutPart, a args, want map[string]api.Errno) {
	t.Helper()
	for _, got := range callAll(table, a) {
		if got.e != want[got.name] || got.e != api.OK && !isZero(got.result) {
			t.Errorf("%v: %s with %v = %v, %d, not the error %d", table, got.name, a, got.result, got.e, want[got.name])
		}
	}
}

// of has an error for some functions.
func of(e api.Errno, names ...string) map[string]api.Errno {
	want := map[string]api.Errno{}
	for _, name := range names {
		want[name] = e
	}
	return want
}

// all has an error for each function but Check.
func all(e api.Errno) map[string]api.Errno {
	want := map[string]api.Errno{}
	for _, got := range callAll(tableT(), argsT()) {
		want[got.name] = e
	}
	return want
}

// noTruth has ErrNone for each function that has no result without a truth.
func noTruth() map[string]api.Errno {
	return of(api.ErrNone, "Weight", "Lost", "Whole", "Price", "Cut", "Gain", "Rank")
}

// noParting has ErrNone for each function that has no result without a parting.
func noParting() map[string]api.Errno {
	want := all(api.ErrNone)
	delete(want, "Holds")
	return want
}

// except has other errors for some functions.
func except(want map[string]api.Errno, e api.Errno, names ...string) map[string]api.Errno {
	for _, name := range names {
		want[name] = e
	}
	return want
}

// same checks what was returned.
func same[T any](t *testing.T, table []api.CutPart, name string, got T, e api.Errno, want T) {
	t.Helper()
	if e != api.OK || !reflect.DeepEqual(got, want) && !(isZero(got) && isZero(want)) {
		t.Fatalf("%v: %s = %v, %d, not %v", table, name, got, e, want)
	}
}

// none checks that nothing was returned but ErrNone.
func none(t *testing.T, table []api.CutPart, name string, got any, e api.Errno) {
	t.Helper()
	if e != api.ErrNone || !isZero(got) {
		t.Fatalf("%v: %s = %v, %d, not ErrNone", table, name, got, e)
	}
}

// holds checks what Holds returns.
func holds(t *testing.T, table []api.CutPart, want bool, weights ...int) {
	t.Helper()
	got, e := cuts.Holds(table, weights)
	if got != want || e != api.OK {
		t.Fatalf("%v: Holds of %v = %t, %d", table, weights, got, e)
	}
}

// weighs checks what Weight returns of all parts, one after the other.
func weighs(t *testing.T, table []api.CutPart, want ...api.Span) {
	t.Helper()
	for number, s := range want {
		got, e := cuts.Weight(table, number)
		same(t, table, "Weight", got, e, s)
	}
}

// lost checks what Lost returns.
func lost(t *testing.T, table []api.CutPart, part, low, high int) {
	t.Helper()
	got, e := cuts.Lost(table, part)
	same(t, table, "Lost", got, e, span(low, high))
}

// fish checks what Whole returns.
func fish(t *testing.T, table []api.CutPart, low, high int) {
	t.Helper()
	got, e := cuts.Whole(table)
	same(t, table, "Whole", got, e, span(low, high))
}

// fix checks what Change and Fix return.
func fix(t *testing.T, table []api.CutPart, change int, weights ...int) {
	t.Helper()
	got, e := cuts.Change(table)
	same(t, table, "Change", got, e, change)
	list, e := cuts.Fix(table)
	same(t, table, "Fix", list, e, weights)
}

// changed checks what Changed returns of all parts, one after the other.
func changed(t *testing.T, table []api.CutPart, want ...int) {
	t.Helper()
	for number, is := range want {
		got, e := cuts.Changed(table, number)
		same(t, table, "Changed", got, e, is)
	}
}

// price checks what Price returns.
func price(t *testing.T, table []api.CutPart, low, high int, cut ...int) {
	t.Helper()
	got, e := cuts.Price(table, cut)
	same(t, table, "Price", got, e, span(low, high))
}

// cut checks what Cut returns.
func cut(t *testing.T, table []api.CutPart, want ...int) {
	t.Helper()
	got, e := cuts.Cut(table)
	same(t, table, "Cut", got, e, want)
}

// gain checks what Gain returns of all parts, one after the other.
func gain(t *testing.T, table []api.CutPart, want ...int) {
	t.Helper()
	for number, is := range want {
		got, e := cuts.Gain(table, number)
		same(t, table, "Gain", got, e, is)
	}
}

// rank checks what Rank returns.
func rank(t *testing.T, table []api.CutPart, cut, other []int, want int) {
	t.Helper()
	got, e := cuts.Rank(table, cut, other)
	same(t, table, "Rank", got, e, want)
}

// The examples of the chapter, and the one of the document.
func TestExamples(t *testing.T) {
	weighs(t, tableT(), span(20, 24), span(8, 12), span(9, 10), span(6, 7), span(0, 6))
	lost(t, tableT(), 0, 1, 3)
	lost(t, tableT(), 1, 0, 2)
	fish(t, tableT(), 20, 24)
	price(t, tableT(), 40, 48)
	price(t, tableT(), 60, 76, 0)
	price(t, tableT(), 72, 87, 0, 1)
	cut(t, tableT(), 0, 1)
	fix(t, tableT(), 0, 20, 8, 9, 6, 0)
	changed(t, tableT(), api.Never, api.Never, api.Never, api.Never, api.Never)
	fix(t, tableU(), 2, 19, 6, 10, 6, 0)
	changed(t, tableU(), api.Perhaps, api.Surely, api.Perhaps, api.Never, api.Never)
	rank(t, tableT(), []int{0, 1}, []int{0}, api.Surely)
	rank(t, tableT(), nil, []int{0}, api.Never)
	gain(t, tableT(), 0, 0, 9, 6, 0)
	got, e := cuts.Weight(tableU(), 0)
	none(t, tableU(), "Weight", got, e)
}

// beyond has numbers that are not from one to another one.
func beyond(low, high int) []int {
	return []int{low - 1, high + 1, low - 7, high + 7, math.MinInt, math.MaxInt}
}

// wrongSpans has spans that have not only numbers from 0 to MaxCutWeight, or none, each for one reason.
func wrongSpans() []api.Span {
	return []api.Span{
		span(-1, 5), span(math.MinInt, 5), span(0, 31), span(30, 31), span(5, math.MaxInt), span(math.MinInt, math.MaxInt),
		span(6, 5), span(30, 0), span(0, -1), span(1, 0), span(31, 31), span(-1, -1), span(math.MaxInt, math.MinInt),
	}
}

// invalid has tables that are not valid, each for one reason.
func invalid() [][]api.CutPart {
	var tables [][]api.CutPart
	add := func(change func(t []api.CutPart)) { tables = append(tables, tableWith(change)) }
	for number := range tableT() {
		for _, n := range append(beyond(whole, number-1), number) {
			add(func(t []api.CutPart) { t[number].Of = n })
		}
		for _, s := range wrongSpans() {
			add(func(t []api.CutPart) { t[number].Weight = s })
			add(func(t []api.CutPart) { t[number].Waste = s })
		}
		for _, n := range beyond(0, api.MaxCutPence) {
			add(func(t []api.CutPart) { t[number].Pence = n })
		}
	}
	for _, many := range []int{1, 2, 1000} {
		tables = append(tables, append(largest(), slices.Repeat([]api.CutPart{part(whole, 0, 0)}, many)...))
	}
	return append(tables, []api.CutPart{part(0, 0, 0)}, []api.CutPart{{Of: 1}, {Of: 0}}, make([]api.CutPart, 1), make([]api.CutPart, 9))
}

// P7.1, and ErrCut before all others.
func TestInvalidTables(t *testing.T) {
	far := args{weights: make([]int, 99), part: 99, cut: []int{5, 4}, other: []int{math.MinInt}}
	for i, table := range invalid() {
		if e := cuts.Check(table); e != api.ErrCut {
			t.Errorf("%d: Check of %v: %d", i, table, e)
		}
		for _, a := range []args{{}, argsT(), far, {part: -1, cut: []int{-1}}} {
			errors(t, table, a, all(api.ErrCut))
		}
	}
}

// P7.1: what is just valid.
func TestValidTables(t *testing.T) {
	for i, table := range [][]api.CutPart{
		nil, {}, tableT(), tableU(), largest(), heavy(), {part(whole, 0, 0)}, {part(whole, 30, 30)}, {loses(part(whole, 0, 0), 30, 30)},
		{pays(part(whole, 5, 5), 0), pays(part(whole, 0, 30), 99), part(1, 3, 3), part(0, 30, 30), part(3, 0, 1)},
		slices.Repeat([]api.CutPart{part(whole, 30, 30)}, 8),
	} {
		if e := cuts.Check(table); e != api.OK {
			t.Errorf("%d: Check of %v: %d", i, table, e)
		}
	}
}

// P7.2: weights at the ends, and beyond, what is lost, too; lists of any numbers, of any length.
func TestHolds(t *testing.T) {
	table := tableT()
	for _, weights := range [][]int{{20, 8, 9, 6, 0}, {21, 8, 10, 6, 2}, {24, 12, 9, 6, 6}, {24, 12, 10, 7, 5}, {24, 11, 10, 7, 4}, {22, 12, 9, 7, 3}} {
		holds(t, table, true, weights...)
		for i := range weights {
			for _, n := range []int{-1, 31, 15, math.MinInt, math.MaxInt, weights[i] + 1<<40, -weights[i] - 1} {
				other := slices.Clone(weights)
				other[i] = n
				holds(t, table, false, other...)
			}
			holds(t, table, false, weights[:i]...)
		}
		holds(t, table, false, append(weights, 0)...)
	}
	for _, weights := range [][]int{{20, 8, 12, 6, 2}, {25, 12, 10, 7, 5}, {19, 8, 9, 6, 2}, {24, 12, 8, 7, 5}, {24, 12, 11, 7, 5}, {24, 12, 10, 8, 4}, {22, 12, 9, 5, 7}} {
		holds(t, table, false, weights...) // away from the words
	}
	for _, weights := range [][]int{{20, 10, 10, 6, 4}, {24, 10, 10, 6, 4}, {23, 10, 10, 6, 5}, {23, 10, 10, 6, 1}, {20, 12, 9, 6, 6}} {
		holds(t, table, false, weights...) // too little or too much is lost
	}
	holds(t, tableU(), false, 19, 6, 10, 6, 0)
	holds(t, nil, true)
	holds(t, nil, false, 0)
	holds(t, []api.CutPart{part(whole, 0, 30), part(whole, 0, 30)}, true, 30, 0)
	holds(t, []api.CutPart{part(whole, 0, 30), part(0, 0, 30), part(0, 0, 30)}, false, 0, math.MaxInt, math.MinInt)
	holds(t, []api.CutPart{part(whole, 0, 30), part(0, 0, 30), part(0, 0, 30)}, false, -2, math.MaxInt, math.MaxInt)
	holds(t, slices.Repeat([]api.CutPart{part(whole, 3, 3)}, 8), true, 3, 3, 3, 3, 3, 3, 3, 3)
	holds(t, make([]api.CutPart, 0), false, make([]int, 1000)...)
}

// What is lost of a part without pieces says nothing; a part that can be cut is what its pieces are, also if it is sold whole.
func TestWaste(t *testing.T) {
	table := []api.CutPart{loses(part(whole, 4, 6), 30, 30), pays(loses(part(whole, 0, 9), 2, 3), 1), loses(part(1, 5, 30), 7, 7)}
	holds(t, table, true, 5, 9, 7)
	holds(t, table, true, 4, 7, 5)
	holds(t, table, false, 5, 9, 8)
	holds(t, table, false, 5, 9, 5)
	weighs(t, table, span(4, 6), span(7, 9), span(5, 7))
	lost(t, table, 1, 2, 3)
	fish(t, table, 11, 15)
	price(t, table, 7, 9)
	price(t, table, 0, 0, 1)
	fix(t, table, 0, 4, 7, 5)
}

// ErrArg for parts that the table does not have, and, of Lost, that cannot be cut.
func TestWrongParts(t *testing.T) {
	for _, n := range beyond(0, 4) {
		a := argsT()
		a.part = n
		errors(t, tableT(), a, of(api.ErrArg, "Weight", "Lost", "Changed", "Gain"))
		errors(t, tableU(), a, except(noTruth(), api.ErrArg, "Weight", "Lost", "Changed", "Gain"))
		errors(t, nil, args{part: n}, of(api.ErrArg, "Weight", "Lost", "Changed", "Gain"))
	}
	for _, n := range []int{2, 3, 4} {
		a := argsT()
		a.part = n
		errors(t, tableT(), a, of(api.ErrArg, "Lost"))
		errors(t, tableU(), a, except(noTruth(), api.ErrArg, "Lost"))
	}
	errors(t, nil, args{part: whole}, of(api.ErrArg, "Weight", "Lost", "Changed", "Gain"))
	errors(t, nil, args{}, of(api.ErrArg, "Weight", "Lost", "Changed", "Gain"))
}

// wrongCuts has lists that are not cuts of T, each for one reason.
func wrongCuts() [][]int {
	return [][]int{
		{1}, {2}, {3}, {4}, {whole}, {5}, {math.MinInt}, {math.MaxInt}, {1, 0}, {0, 0}, {0, 2}, {0, 3}, {0, 1, 1}, {0, 1, 3}, {0, 1, 2},
		{0, 1, 4}, {0, 1, 5}, {whole, 0}, {0, whole}, {0, 1, 0}, {0, math.MaxInt}, {math.MaxInt, math.MinInt}, make([]int, 1000),
	}
}

// ErrArg for lists that are not cuts, whichever of the two, before ErrNone.
func TestWrongCuts(t *testing.T) {
	for _, list := range wrongCuts() {
		for _, right := range [][]int{nil, {0}, {0, 1}} {
			errors(t, tableT(), args{cut: list, other: right}, of(api.ErrArg, "Price", "Rank"))
			errors(t, tableT(), args{cut: right, other: list}, of(api.ErrArg, "Rank"))
			errors(t, tableU(), args{cut: list, other: right}, except(noTruth(), api.ErrArg, "Price", "Rank"))
			errors(t, tableU(), args{cut: right, other: list}, except(noTruth(), api.ErrArg, "Rank"))
		}
		errors(t, tableT(), args{cut: list, other: list}, of(api.ErrArg, "Price", "Rank"))
		errors(t, nil, args{cut: list}, of(api.ErrArg, "Weight", "Lost", "Changed", "Gain", "Price", "Rank"))
	}
	table := append(tableT(), part(whole, 0, 9), part(whole, 1, 9), part(5, 1, 9))
	for _, list := range [][]int{nil, {0}, {5}, {0, 1}, {0, 5}, {0, 1, 5}} {
		errors(t, table, args{cut: list, other: list}, nil)
	}
	for _, list := range [][]int{{6}, {7}, {1, 5}, {5, 0}, {0, 6}, {0, 5, 7}} {
		errors(t, table, args{cut: list, other: list}, of(api.ErrArg, "Price", "Rank"))
	}
}

// ErrNone without a truth, but for what heeds all partings; in each place in which the words can be wrong.
func TestNoTruth(t *testing.T) {
	for _, table := range [][]api.CutPart{
		tableU(),
		tableWith(func(t []api.CutPart) { t[0].Weight = span(26, 30) }),
		tableWith(func(t []api.CutPart) { t[0].Waste = span(9, 30) }),
		tableWith(func(t []api.CutPart) { t[1].Waste = span(7, 9) }),
		tableWith(func(t []api.CutPart) { t[2].Weight = span(0, 4) }),
		tableWith(func(t []api.CutPart) { t[3].Weight = span(13, 14) }),
		tableWith(func(t []api.CutPart) { t[4].Weight = span(7, 30) }),
	} {
		a := argsT()
		errors(t, table, a, noTruth())
		holds(t, table, false, a.weights...)
	}
	table := append(tableU(), part(whole, 0, 30), part(5, 0, 30))
	errors(t, table, args{part: 5, cut: []int{5}}, noTruth())
	table[1].Weight.High = 6
	errors(t, table, args{part: 5, cut: []int{5}}, noTruth())
	table[0].Weight.Low = 19
	errors(t, table, args{part: 5, cut: []int{5}}, nil)
}

// ErrNone without a parting: a weight would be above MaxCutWeight, whatever the words say.
func TestNoParting(t *testing.T) {
	table := []api.CutPart{loses(part(whole, 0, 30), 11, 30), loses(part(0, 0, 30), 20, 30), part(1, 0, 30)}
	errors(t, table, args{weights: []int{30, 20, 0}, cut: []int{0, 1}}, noParting())
	errors(t, append(table, part(whole, 0, 30)), args{part: 1, cut: []int{0}}, noParting())
	for _, n := range beyond(0, 2) {
		errors(t, table, args{part: n, cut: []int{1}, other: []int{2}},
			except(noParting(), api.ErrArg, "Weight", "Lost", "Changed", "Gain", "Price", "Rank"))
	}
	errors(t, table, args{part: 2}, except(noParting(), api.ErrArg, "Lost"))
	table[0].Waste.Low = 10
	errors(t, table, args{cut: []int{0, 1}}, nil)
	fix(t, table, 0, 30, 20, 0)
	errors(t, heavy(), args{part: 1, cut: []int{0}}, nil)
	fix(t, heavy(), 0, 30, 10, 0)
}

// Without a part there is one truth, and one cut.
func TestEmpty(t *testing.T) {
	for _, table := range [][]api.CutPart{nil, {}} {
		holds(t, table, true)
		fish(t, table, 0, 0)
		fix(t, table, 0)
		price(t, table, 0, 0)
		cut(t, table)
		rank(t, table, nil, []int{}, api.Never)
	}
}

// P7.3 to P7.5: what is known of the pieces, of the whole, and of the other pieces.
func TestSpans(t *testing.T) {
	table := []api.CutPart{loses(part(whole, 0, 30), 2, 4), part(0, 5, 6), loses(part(0, 0, 30), 1, 1), part(2, 3, 9), part(2, 4, 4), part(0, 0, 30)}
	weighs(t, table, span(15, 30), span(5, 6), span(8, 14), span(3, 9), span(4, 4), span(0, 15))
	lost(t, table, 0, 2, 4)
	lost(t, table, 2, 1, 1)
	fish(t, table, 15, 30)
	table[0].Weight = span(16, 17)
	weighs(t, table, span(16, 17), span(5, 6), span(8, 10), span(3, 5), span(4, 4), span(0, 2))
	table[5].Weight = span(0, 0)
	table[0].Weight = span(24, 24)
	weighs(t, table, span(24, 24), span(6, 6), span(14, 14), span(9, 9), span(4, 4), span(0, 0))
	lost(t, table, 0, 4, 4)
	lost(t, append(table, loses(part(whole, 0, 30), 0, 30), part(6, 0, 30)), 6, 0, 30)
	fish(t, append(table, part(whole, 0, 30), part(whole, 3, 5)), 27, 59)
	fish(t, slices.Repeat([]api.CutPart{part(whole, 0, 30)}, 8), 0, 240)
	fish(t, slices.Repeat([]api.CutPart{part(whole, 30, 30)}, 8), 240, 240)
}

// P7.6 to P7.8: of several weights the least ones; a weight is from 0 to MaxCutWeight, whatever it is changed for.
func TestChanges(t *testing.T) {
	fix(t, []api.CutPart{part(whole, 5, 7)}, 0, 5)
	fix(t, []api.CutPart{part(whole, 5, 9), part(0, 7, 7)}, 0, 7, 7)
	fix(t, []api.CutPart{part(whole, 0, 30), part(0, 0, 30)}, 0, 0, 0)
	table := []api.CutPart{part(whole, 10, 10), part(0, 12, 12)}
	fix(t, table, 2, 10, 10)
	changed(t, table, api.Perhaps, api.Perhaps)
	table = append(table, part(1, 12, 12))
	fix(t, table, 2, 12, 12, 12)
	changed(t, table, api.Surely, api.Never, api.Never)
	table = []api.CutPart{part(whole, 10, 10), part(0, 6, 6), part(0, 6, 6)}
	fix(t, table, 2, 10, 4, 6)
	changed(t, table, api.Perhaps, api.Perhaps, api.Perhaps)
	table = []api.CutPart{loses(part(whole, 30, 30), 3, 9), part(0, 30, 30)}
	fix(t, table, 3, 30, 27)
	changed(t, table, api.Never, api.Surely)
	table = []api.CutPart{loses(part(whole, 1, 2), 5, 5), part(0, 0, 0)}
	fix(t, table, 3, 5, 0)
	changed(t, table, api.Surely, api.Never)
	table = []api.CutPart{part(whole, 9, 9), part(whole, 4, 5), part(0, 10, 11), part(1, 3, 3), part(0, 1, 1)}
	fix(t, table, 3, 9, 3, 8, 3, 1)
	table[1].Waste = span(0, 1)
	fix(t, table, 2, 9, 4, 8, 3, 1)
	changed(t, table, api.Perhaps, api.Never, api.Perhaps, api.Never, api.Perhaps)
	table = []api.CutPart{part(whole, 30, 30), part(0, 0, 0)}
	fix(t, table, 30, 0, 0)
	changed(t, table, api.Perhaps, api.Perhaps)
	fix(t, append(table, part(0, 0, 0)), 30, 0, 0, 0)
}

// P7.9: what is not cut is sold whole, and its pieces are not; what the pieces weigh together is known.
func TestPrices(t *testing.T) {
	table := []api.CutPart{pays(part(whole, 10, 10), 1), pays(part(0, 0, 30), 3), pays(part(0, 0, 30), 5), pays(part(2, 0, 30), 9)}
	price(t, table, 10, 10)
	price(t, table, 30, 50, 0)
	price(t, table, 30, 90, 0, 2)
	table[1].Weight.Low = 4
	price(t, table, 30, 42, 0)
	price(t, table, 30, 66, 0, 2)
	table = append(table, pays(part(whole, 2, 3), 7), pays(part(4, 2, 9), 8))
	price(t, table, 24, 31)
	price(t, table, 44, 63, 0)
	price(t, table, 26, 34, 4)
	price(t, table, 46, 90, 0, 2, 4)
	price(t, slices.Repeat([]api.CutPart{pays(part(whole, 0, 30), 99)}, 8), 0, 8*30*99)
	price(t, largest(), 0, 2970)
	price(t, largest(), 0, 2970, 0, 1, 2, 3, 4, 5, 6)
}

// P7.10: of several cuts the one with the fewest parts, and of these the first.
func TestCuts(t *testing.T) {
	table := []api.CutPart{pays(part(whole, 5, 6), 2), pays(part(0, 5, 6), 2)}
	cut(t, table)
	table[1].Pence = 3
	cut(t, table, 0)
	table[0].Pence = 4
	cut(t, table)
	table[1] = pays(part(0, 4, 6), 5)
	table[0].Waste.High = 1
	cut(t, table) // 20 and 20
	table[1].Weight.Low = 5
	cut(t, table, 0)
	cut(t, []api.CutPart{part(whole, 5, 6), part(0, 0, 9), part(1, 0, 9)})
	cut(t, largest())
	cut(t, tableWith(func(t []api.CutPart) { t[3].Pence, t[4].Pence = 3, 0 }), 0)
	table = []api.CutPart{pays(part(whole, 5, 5), 9), part(0, 5, 5), pays(part(1, 5, 5), 10)}
	cut(t, table, 0, 1) // to cut the first part only would pay nothing
	fishes := []api.CutPart{pays(part(whole, 5, 5), 1), pays(part(whole, 5, 5), 2), pays(part(1, 5, 5), 3), pays(part(0, 5, 5), 2)}
	cut(t, fishes, 0, 1)
	fishes[0].Pence = 2
	cut(t, fishes, 1)
	fishes[3].Pence, fishes[2].Pence = 3, 2
	cut(t, fishes, 0)
	long := []api.CutPart{part(whole, 9, 9), part(0, 9, 9), part(1, 9, 9), part(2, 5, 5), part(2, 4, 4), part(3, 5, 5), part(4, 4, 4)}
	long[5].Pence = 1
	cut(t, long, 0, 1, 2, 3)
	long[4].Pence = 1
	cut(t, long, 0, 1, 2, 3)
	long[6].Pence = 2
	cut(t, long, 0, 1, 2, 3, 4)
	long[3].Pence = 2
	cut(t, long, 0, 1, 2, 4)
}

// P7.10: the part 1 is better cut if it is heavy, and the part 2 if it is light; never both are.
func TestEqualCuts(t *testing.T) {
	table := []api.CutPart{
		part(whole, 10, 10), pays(loses(part(0, 2, 8), 2, 2), 1), pays(loses(part(0, 2, 8), 0, 8), 2), pays(part(1, 0, 30), 2), pays(part(2, 2, 2), 7),
	}
	price(t, table, 12, 18, 0)
	price(t, table, 16, 16, 0, 1)
	price(t, table, 16, 22, 0, 2)
	price(t, table, 14, 26, 0, 1, 2)
	cut(t, table, 0, 1)
	table[4].Pence = 8
	cut(t, table, 0, 2)
	gain(t, table, 0, 2, 0, 0, 2)
}

// P7.11: also above MaxCutPence, and if another cut is then the best one.
func TestGains(t *testing.T) {
	gain(t, []api.CutPart{pays(part(whole, 5, 7), api.MaxCutPence)}, 5)
	gain(t, largest(), 0, 0, 0, 0, 0, 0, 0, 0)
	table := []api.CutPart{pays(part(whole, 10, 12), 2), pays(part(0, 10, 12), 2)}
	gain(t, table, 10, 10)
	table[0].Pence = 3
	gain(t, table, 10, 0)
	table[1].Pence = 4
	gain(t, table, 0, 10)
	table = []api.CutPart{pays(part(whole, 10, 10), 2), pays(part(0, 0, 30), 1), pays(part(0, 4, 9), 3)}
	gain(t, table, 10, 4, 2) // with either piece dearer it pays to cut
	table[2].Pence = 2
	gain(t, table, 10, 0, 0)
	table = []api.CutPart{part(whole, 10, 10), pays(part(0, 0, 30), 3), pays(part(0, 4, 9), 2)}
	gain(t, table, 0, 1, 9) // of the part 1 there is only a pound in the worst truth
}

// P7.12: by the difference in each truth; an equal price is not greater.
func TestRanks(t *testing.T) {
	table := []api.CutPart{pays(part(whole, 10, 20), 2), pays(part(0, 0, 30), 3)}
	rank(t, table, []int{0}, nil, api.Surely) // though 30 is less than 40
	rank(t, table, nil, []int{0}, api.Never)
	rank(t, table, nil, nil, api.Never)
	rank(t, table, []int{0}, []int{0}, api.Never)
	table[0].Weight.Low = 0
	rank(t, table, []int{0}, nil, api.Perhaps)
	rank(t, table, nil, []int{0}, api.Never)
	table[0].Waste.High = 5
	rank(t, table, []int{0}, nil, api.Perhaps)
	rank(t, table, nil, []int{0}, api.Perhaps)
	table[1].Pence = 2
	rank(t, table, []int{0}, nil, api.Never)
	rank(t, table, nil, []int{0}, api.Perhaps)
	table[0].Waste.Low = 1
	rank(t, table, nil, []int{0}, api.Surely)
	rank(t, largest(), []int{0, 1, 2}, nil, api.Never)
	rank(t, largest(), nil, []int{0, 1, 2}, api.Perhaps)
}

// R3 and R4: empty lists are nil lists, results are new memory, and no argument is changed.
func TestMemory(t *testing.T) {
	for _, table := range [][]api.CutPart{nil, {}, tableT()} {
		want := callAll(table, args{})
		for i, got := range callAll(table, args{weights: []int{}, cut: []int{}, other: []int{}}) {
			if got.e != want[i].e || !reflect.DeepEqual(got.result, want[i].result) && !(isZero(got.result) && isZero(want[i].result)) {
				t.Errorf("%s of empty lists = %v, of nil lists %v", got.name, got, want[i])
			}
		}
	}
	for _, make := range []func() []api.CutPart{tableT, tableU, largest, heavy} {
		table, a := make(), argsT()
		first := callAll(make(), argsT())
		for range 2 {
			for i, got := range callAll(table, a) {
				if !reflect.DeepEqual(got, first[i]) {
					t.Errorf("%v: %s = %v, and then %v", table, got.name, first[i], got)
				}
				if l, is := got.result.([]int); is {
					l = l[:cap(l)]
					for i := range l {
						l[i] = -9
					}
				}
			}
			if !reflect.DeepEqual(table, make()) || !reflect.DeepEqual(a, argsT()) {
				t.Fatalf("the arguments are changed: %v, %v", table, a)
			}
		}
	}
}
