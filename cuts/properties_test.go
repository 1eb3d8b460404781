package cuts_test

import (
	"math"
	"reflect"
	"slices"
	"testing"

	"almadraba/api"
	"almadraba/cuts"
)

// must returns a function that returns what was returned without an error.
func must[T any](t *testing.T, table []api.CutPart) func(T, api.Errno) T {
	return func(result T, e api.Errno) T {
		t.Helper()
		if e != api.OK {
			t.Fatalf("%v: the error %d", table, e)
		}
		return result
	}
}

// may returns a function that returns what was returned, and whether it was, if not with ErrNone.
func may[T any](t *testing.T, table []api.CutPart) func(T, api.Errno) (T, bool) {
	return func(result T, e api.Errno) (T, bool) {
		t.Helper()
		if e != api.OK && e != api.ErrNone {
			t.Fatalf("%v: the error %d", table, e)
		}
		return result, e == api.OK
	}
}

func weightIn(t *testing.T, table []api.CutPart, number int) api.Span {
	t.Helper()
	return must[api.Span](t, table)(cuts.Weight(table, number))
}

func wholeIn(t *testing.T, table []api.CutPart) api.Span {
	t.Helper()
	return must[api.Span](t, table)(cuts.Whole(table))
}

func priceIn(t *testing.T, table []api.CutPart, cut []int) api.Span {
	t.Helper()
	return must[api.Span](t, table)(cuts.Price(table, cut))
}

func cutIn(t *testing.T, table []api.CutPart) []int {
	t.Helper()
	return must[[]int](t, table)(cuts.Cut(table))
}

func rankIn(t *testing.T, table []api.CutPart, cut, other []int) int {
	t.Helper()
	return must[int](t, table)(cuts.Rank(table, cut, other))
}

func fixIn(t *testing.T, table []api.CutPart) []int {
	t.Helper()
	return must[[]int](t, table)(cuts.Fix(table))
}

func changedIn(t *testing.T, table []api.CutPart, number int) int {
	t.Helper()
	return must[int](t, table)(cuts.Changed(table, number))
}

// changeIn returns Change; endless if there is no parting.
func changeIn(t *testing.T, table []api.CutPart) int {
	t.Helper()
	change, is := may[int](t, table)(cuts.Change(table))
	if !is {
		return endless
	}
	return change
}

// endless is a number that is greater than each change.
const endless = 9999

// isTrue reports whether a table has a truth.
func isTrue(t *testing.T, table []api.CutPart) bool {
	t.Helper()
	_, is := may[api.Span](t, table)(cuts.Whole(table))
	return is
}

// withWeight returns a table with another Weight of a part.
func withWeight(table []api.CutPart, number int, s api.Span) []api.CutPart {
	table = slices.Clone(table)
	table[number].Weight = s
	return table
}

// fishIn returns what all whole fish weigh together.
func fishIn(table []api.CutPart, weights []int) int {
	pounds := 0
	for number, p := range table {
		if p.Of == whole {
			pounds += weights[number]
		}
	}
	return pounds
}

// P7.13: the spans.
func TestEachTruth(t *testing.T) {
	several := 0
	for _, table := range tables(11, 500, 9) {
		all := truthsOf(table)
		if len(all) == 0 {
			continue
		}
		if len(all) > 1 {
			several++
		}
		inside := func(name string, s api.Span, is func(weights []int) int) {
			if got := ends(all, is); got.Low < s.Low || got.High > s.High {
				t.Fatalf("%v: %s = %v, but in truths %v", table, name, s, got)
			}
		}
		inside("Whole", wholeIn(t, table), func(weights []int) int { return fishIn(table, weights) })
		for number := range table {
			inside("Weight", weightIn(t, table, number), func(weights []int) int { return weights[number] })
			if hasPieces(table, number) {
				inside("Lost", must[api.Span](t, table)(cuts.Lost(table, number)), func(weights []int) int { return lostOf(table, weights, number) })
			}
		}
		for _, list := range cutsOf(table) {
			inside("Price", priceIn(t, table, list), func(weights []int) int { return priceOf(table, list, weights) })
		}
	}
	if several < 100 {
		t.Errorf("too few tables: %d", several)
	}
}

// P7.13: Rank says no more than the truth bears out.
func TestRankOfEachTruth(t *testing.T) {
	var found [4]int
	for _, table := range tables(22, 300, 5) {
		all := truthsOf(table)
		if len(all) == 0 {
			continue
		}
		for _, a := range cutsOf(table) {
			for _, b := range cutsOf(table) {
				is := rankIn(t, table, a, b)
				more := ends(all, func(weights []int) int { return priceOf(table, a, weights) - priceOf(table, b, weights) })
				if is == api.Surely && more.Low <= 0 || is == api.Never && more.High > 0 {
					t.Fatalf("%v: Rank of %v, %v = %d; but by %v more", table, a, b, is, more)
				}
				found[is]++
			}
		}
	}
	if slices.Min(found[1:]) < 100 {
		t.Errorf("too few cuts of one kind: %v", found)
	}
}

// P7.14: with each end alone as the Weight there is a truth, with the rest of the Weight beyond them there is none.
func TestBothEnds(t *testing.T) {
	below, above := 0, 0
	for _, table := range tables(12, 1500, 9) {
		if !isTrue(t, table) {
			continue
		}
		for number, p := range table {
			s := weightIn(t, table, number)
			for _, end := range []api.Span{span(s.Low, s.Low), span(s.High, s.High)} {
				if other := withWeight(table, number, end); weightIn(t, other, number) != end {
					t.Fatalf("%v: Weight of %d = %v", table, number, s)
				}
			}
			if p.Weight.Low < s.Low {
				below++
				if isTrue(t, withWeight(table, number, span(p.Weight.Low, s.Low-1))) {
					t.Fatalf("%v: Weight of %d = %v; there is a truth below", table, number, s)
				}
			}
			if s.High < p.Weight.High {
				above++
				if isTrue(t, withWeight(table, number, span(s.High+1, p.Weight.High))) {
					t.Fatalf("%v: Weight of %d = %v; there is a truth above", table, number, s)
				}
			}
		}
	}
	if below < 200 || above < 200 {
		t.Errorf("too few parts: %d, %d", below, above)
	}
}

// lesser returns a span with any numbers of a span, one at least.
func (d *dice) lesser(s api.Span) api.Span {
	low := s.Low + d.below(s.High-s.Low+1)
	return span(low, low+d.below(s.High-low+1))
}

// spansOf returns all that Weight, Lost, Whole and Price return of a table that has a truth.
func spansOf(t *testing.T, table []api.CutPart) []api.Span {
	t.Helper()
	list := []api.Span{wholeIn(t, table)}
	for number := range table {
		list = append(list, weightIn(t, table, number))
		if hasPieces(table, number) {
			list = append(list, must[api.Span](t, table)(cuts.Lost(table, number)))
		}
	}
	for _, cut := range cutsOf(table) {
		list = append(list, priceIn(t, table, cut))
	}
	return list
}

// P7.15.
func TestClearer(t *testing.T) {
	d := dice(13)
	narrower, more, none := 0, 0, 0
	for _, table := range tables(13, 1000, 9) {
		var before []api.Span
		if isTrue(t, table) {
			before = spansOf(t, table)
		}
		for number := range table {
			for _, other := range [][]api.CutPart{slices.Clone(table), slices.Clone(table)} {
				if p := &other[number]; d.below(2) == 0 {
					p.Weight = d.lesser(p.Weight)
				} else {
					p.Waste = d.lesser(p.Waste)
				}
				was, is := changeIn(t, table), changeIn(t, other)
				if is < was {
					t.Fatalf("%v: Change = %d; %v: %d", table, was, other, is)
				}
				if is > was {
					more++
				}
				if !isTrue(t, other) {
					none++
					continue
				}
				for i, s := range spansOf(t, other) {
					if s.Low < before[i].Low || s.High > before[i].High {
						t.Fatalf("%v: %v; %v: %v", table, before, other, spansOf(t, other))
					}
					if s != before[i] {
						narrower++
					}
				}
			}
		}
	}
	if narrower < 1000 || more < 200 || none < 200 {
		t.Errorf("too few tables of one kind: %d, %d, %d", narrower, more, none)
	}
}

// P7.16: no parting has a lesser change, by all that have one.
func TestTheChange(t *testing.T) {
	changes, none := 0, 0
	for _, table := range tables(14, 1500, 9) {
		change := changeIn(t, table)
		if (change == 0) != isTrue(t, table) {
			t.Fatalf("%v: Change = %d, and a truth: %t", table, change, isTrue(t, table))
		}
		if change == endless {
			none++
			continue
		}
		weights := fixIn(t, table)
		if len(weights) != len(table) || !isParting(table, weights) || changeOf(table, weights) != change {
			t.Fatalf("%v: Change = %d, Fix = %v", table, change, weights)
		}
		if change > 0 {
			changes++
			if less := partings(table, change-1); len(less) > 0 {
				t.Fatalf("%v: Change = %d, but there is %v", table, change, less[0])
			}
		}
		other := slices.Clone(table)
		for number, weight := range weights {
			other[number].Weight = span(weight, weight)
		}
		holds(t, other, true, weights...)
		fix(t, other, 0, weights...)
	}
	if changes < 200 || none < 1 {
		t.Errorf("too few tables of one kind: %d, %d", changes, none)
	}
}

// P7.17.
func TestOnePound(t *testing.T) {
	less, equal := 0, 0
	for _, table := range tables(15, 1500, 9) {
		change := changeIn(t, table)
		for number, p := range table {
			for _, s := range []api.Span{span(p.Weight.Low-1, p.Weight.High), span(p.Weight.Low, p.Weight.High+1)} {
				if s.Low < 0 || s.High > api.MaxCutWeight {
					continue
				}
				switch is := changeIn(t, withWeight(table, number, s)); {
				case is == change:
					equal++
				case is == change-1 && change < endless:
					less++
				default:
					t.Fatalf("%v: Change = %d; with %v in %d: %d", table, change, s, number, is)
				}
			}
		}
	}
	if less < 500 || equal < 500 {
		t.Errorf("too few tables of one kind: %d, %d", less, equal)
	}
}

// P7.18.
func TestWhoIsChanged(t *testing.T) {
	var found [4]int
	for _, table := range tables(16, 1500, 9) {
		change := changeIn(t, table)
		if change == endless {
			continue
		}
		all := partings(table, change)
		for number, p := range table {
			is := changedIn(t, table, number)
			if change == 0 && is != api.Never {
				t.Fatalf("%v: Change = 0, Changed of %d = %d", table, number, is)
			}
			for _, weights := range all {
				if away := awayOf(p, weights[number]) > 0; away && is == api.Never || !away && is == api.Surely {
					t.Fatalf("%v: Changed of %d = %d, and not so in %v", table, number, is, weights)
				}
			}
			if change > 0 {
				found[is]++
			}
		}
	}
	if slices.Min(found[1:]) < 100 {
		t.Errorf("too few parts of one kind: %v", found)
	}
}

// P7.19.
func TestTheCut(t *testing.T) {
	uncut, equal, gains := 0, 0, 0
	for _, table := range tables(17, 1500, 5) {
		if !isTrue(t, table) {
			continue
		}
		best := cutIn(t, table)
		low := priceIn(t, table, best).Low
		all := cutsOf(table)
		for _, list := range all {
			if is := priceIn(t, table, list).Low; is > low {
				t.Fatalf("%v: Cut = %v, for at least %d; %v for %d", table, best, low, list, is)
			} else if is == low && !slices.Equal(list, best) {
				equal++
			}
		}
		if len(all) == 1 {
			uncut++
			if len(best) > 0 {
				t.Fatalf("%v: Cut = %v", table, best)
			}
		}
		for number := range table {
			more := must[int](t, table)(cuts.Gain(table, number))
			if more < 0 || more > weightIn(t, table, number).High {
				t.Fatalf("%v: Gain of %d = %d", table, number, more)
			}
			other := dearer(table, number)
			if is := priceIn(t, other, cutIn(t, other)).Low; is != low+more {
				t.Fatalf("%v: Gain of %d = %d; from %d to %d", table, number, more, low, is)
			}
			if more > 0 {
				gains++
			}
		}
	}
	if uncut < 50 || equal < 100 || gains < 200 {
		t.Errorf("too few tables of one kind: %d, %d, %d", uncut, equal, gains)
	}
}

// beside returns a table with another one behind it.
func beside(table, other []api.CutPart) []api.CutPart {
	both := slices.Clone(table)
	for _, p := range other {
		if p.Of != whole {
			p.Of += len(table)
		}
		both = append(both, p)
	}
	return both
}

// bothCuts returns the cut of two tables side by side.
func bothCuts(table []api.CutPart, cut, other []int) []int {
	both := slices.Clone(cut)
	for _, number := range other {
		both = append(both, number+len(table))
	}
	return both
}

// together returns two spans together.
func together(a, b api.Span) api.Span { return span(a.Low+b.Low, a.High+b.High) }

// P7.20.
func TestFishByFish(t *testing.T) {
	pairs, changes := 0, 0
	d := dice(18)
	all := tables(18, 3000, 9)
	for _, table := range all {
		other := all[d.below(len(all))]
		if len(table)+len(other) > api.MaxCutParts {
			other = other[:api.MaxCutParts-len(table)]
		}
		both := beside(table, other)
		first, second := changeIn(t, table), changeIn(t, other)
		if is := changeIn(t, both); is != min(first+second, endless) {
			t.Fatalf("%v: Change = %d; %v: %d; side by side: %d", table, first, other, second, is)
		}
		if first > 0 && second > 0 {
			changes++
		}
		if !isTrue(t, table) || !isTrue(t, other) {
			if isTrue(t, both) {
				t.Fatalf("%v and %v have a truth only side by side", table, other)
			}
			continue
		}
		pairs++
		if is := wholeIn(t, both); is != together(wholeIn(t, table), wholeIn(t, other)) {
			t.Fatalf("%v: Whole = %v; %v: %v; side by side: %v", table, wholeIn(t, table), other, wholeIn(t, other), is)
		}
		for _, a := range cutsOf(table) {
			for _, b := range cutsOf(other) {
				list := bothCuts(table, a, b)
				if is := priceIn(t, both, list); is != together(priceIn(t, table, a), priceIn(t, other, b)) {
					t.Fatalf("%v: Price of %v = %v; %v: of %v %v; side by side: %v", table, a, priceIn(t, table, a), other, b, priceIn(t, other, b), is)
				}
			}
		}
	}
	if pairs < 200 || changes < 100 {
		t.Errorf("too few tables of one kind: %d, %d", pairs, changes)
	}
}

// P7.21.
func TestDearAndCheap(t *testing.T) {
	some := 0
	for _, table := range tables(19, 500, api.MaxCutPence/2) {
		if !isTrue(t, table) {
			continue
		}
		dear := slices.Clone(table)
		for number := range dear {
			dear[number].Pence *= 2
		}
		if is, was := cutIn(t, dear), cutIn(t, table); !slices.Equal(is, was) {
			t.Fatalf("%v: Cut = %v; twice as dear: %v", table, was, is)
		}
		for _, a := range cutsOf(table) {
			was := priceIn(t, table, a)
			if is := priceIn(t, dear, a); is != together(was, was) {
				t.Fatalf("%v: Price of %v = %v; twice as dear: %v", table, a, was, is)
			}
			for _, b := range cutsOf(table) {
				if is, was := rankIn(t, dear, a, b), rankIn(t, table, a, b); is != was {
					t.Fatalf("%v: Rank of %v, %v = %d; twice as dear: %d", table, a, b, was, is)
				}
			}
			some++
		}
	}
	if some < 500 {
		t.Errorf("too few cuts: %d", some)
	}
}

// P1: the largest tables, of any shape.
func TestLargest(t *testing.T) {
	d := dice(20)
	for range 200 {
		table := d.shape(api.MaxCutParts, api.MaxCutPence)
		for number := range table {
			table[number].Weight, table[number].Waste = span(0, api.MaxCutWeight), span(0, api.MaxCutWeight)
		}
		fix(t, table, 0, make([]int, api.MaxCutParts)...)
		for number := range table {
			fix(t, withWeight(table, number, span(30, 30)), 0, heaviest(table, number)...)
		}
		for _, list := range cutsOf(table) {
			rank(t, table, list, list, api.Never)
			if s := priceIn(t, table, list); s.Low != 0 {
				t.Fatalf("%v: Price of %v = %v", table, list, s)
			}
		}
		cut(t, table)
	}
	fix(t, slices.Repeat([]api.CutPart{part(whole, 30, 30)}, 8), 0, slices.Repeat([]int{30}, 8)...)
	var row []api.CutPart
	for number := range api.MaxCutParts {
		row = append(row, loses(part(number-1, (1-number%2)*30, (1-number%2)*30), 0, 0))
	}
	fix(t, row, 120, 0, 0, 0, 0, 0, 0, 0, 0)
	row[0].Waste = span(30, 30)
	fix(t, row, 90, 30, 0, 0, 0, 0, 0, 0, 0)
}

// heaviest returns the least weights if a part must weigh 30, and so all of which it is cut.
func heaviest(table []api.CutPart, number int) []int {
	weights := make([]int, len(table))
	for ; number != whole; number = table[number].Of {
		weights[number] = 30
	}
	return weights
}

// any returns any number, most often one that could be right.
func (d *dice) any() int {
	if d.below(40) > 0 {
		return d.below(6) - 1
	}
	return []int{math.MinInt, math.MaxInt, -2, 30, 31, 99, 100, 1 << 40}[d.below(8)]
}

// list returns a list of any numbers, most often an ascending one.
func (d *dice) list(many int) []int {
	var list []int
	for range d.below(many) {
		list = append(list, d.any())
	}
	if d.below(6) > 0 {
		slices.Sort(list)
		list = slices.Compact(list)
	}
	return list
}

// span returns any numbers, most often one from 0 on to one that is not less.
func (d *dice) span() api.Span {
	low := max(d.any(), d.below(80)-70)
	if d.below(30) == 0 {
		return span(low, d.any())
	}
	return span(low, low+d.below(7))
}

// P1: whatever the arguments are, each function returns, the same each time, and nothing beside an error.
func TestAnyArguments(t *testing.T) {
	d := dice(21)
	var found [4]int
	for range 20000 {
		var table []api.CutPart
		for number := range d.below(6) {
			of := d.any()
			if d.below(8) > 0 {
				of = d.below(number+1) - 1
			}
			table = append(table, api.CutPart{Of: of, Weight: d.span(), Waste: d.span(), Pence: max(d.any(), 0)})
		}
		a := args{weights: d.list(6), part: d.any(), cut: d.list(4), other: d.list(3)}
		again := callAll(table, a)
		for i, got := range callAll(table, a) {
			if !reflect.DeepEqual(got, again[i]) || got.e != api.OK && !isZero(got.result) || (cuts.Check(table) != api.OK) != (got.e == api.ErrCut) {
				t.Fatalf("%v, %v: %s = %v, %d, and then %v", table, a, got.name, got.result, got.e, again[i])
			}
			if got.e <= api.ErrNone {
				found[got.e]++
			}
		}
	}
	if found[api.OK] < 1000 || found[api.ErrArg] < 1000 || found[api.ErrNone] < 1000 {
		t.Errorf("too few calls of one kind: %v", found)
	}
}
