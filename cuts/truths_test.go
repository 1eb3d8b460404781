package cuts_test

import (
	"cmp"
	"slices"
	"testing"

	"almadraba/api"
	"almadraba/cuts"
)

// dice is a row of numbers that are the same in each run.
type dice uint64

// below returns a number from 0 to below an end.
func (d *dice) below(end int) int {
	*d = *d*6364136223846793005 + 1442695040888963407
	return int(uint64(*d)>>33) % end
}

// around returns a span with a number, that is at most so much wider at each end.
func (d *dice) around(number, wide int) api.Span {
	return span(max(0, number-d.below(wide+1)), min(api.MaxCutWeight, number+d.below(wide+1)))
}

// moved returns a span that is as wide, and at most so far away.
func (d *dice) moved(s api.Span, far int) api.Span {
	low := min(max(0, s.Low+d.below(2*far+1)-far), api.MaxCutWeight-(s.High-s.Low))
	return span(low, low+s.High-s.Low)
}

// shape returns so many parts that are cut of any ones before, and have any prices up to an end.
func (d *dice) shape(parts, end int) []api.CutPart {
	var t []api.CutPart
	for number := range parts {
		of := whole
		if number > 0 && d.below(4) > 0 {
			of = d.below(number)
		}
		t = append(t, api.CutPart{Of: of, Pence: d.below(end + 1)})
	}
	return t
}

// weights returns weights of a parting, and what is lost, of a table of any words; none if some weight would be too great.
func (d *dice) weights(t []api.CutPart) (weights, lost []int) {
	weights, lost = make([]int, len(t)), make([]int, len(t))
	for number := len(t) - 1; number >= 0; number-- {
		lost[number] = d.below(4)
		if weights[number] += lost[number]; !hasPieces(t, number) {
			weights[number] = d.below(9)
		}
		if weights[number] > api.MaxCutWeight {
			return nil, nil
		}
		if of := t[number].Of; of != whole {
			weights[of] += weights[number]
		}
	}
	return weights, lost
}

// table returns a table with words around a parting.
func (d *dice) table(parts, wide, end int) []api.CutPart {
	for {
		t := d.shape(parts, end)
		weights, lost := d.weights(t)
		for number := range weights {
			t[number].Weight, t[number].Waste = d.around(weights[number], wide), d.around(lost[number], wide)
		}
		if weights != nil {
			return t
		}
	}
}

// wrongly returns a table some of whose words are moved.
func (d *dice) wrongly(t []api.CutPart, far int) []api.CutPart {
	t = slices.Clone(t)
	for number := range t {
		if d.below(len(t)) < 2 {
			t[number].Weight = d.moved(t[number].Weight, far)
		}
	}
	return t
}

// wild returns a table of any words.
func (d *dice) wild(parts, end int) []api.CutPart {
	t := d.shape(parts, end)
	for number := range t {
		t[number].Weight, t[number].Waste = d.around(d.below(31), 9), d.around(d.below(31), 9)
	}
	return t
}

// tables returns so many tables, the same ones each time: with many truths, with few, and with none.
func tables(seed, many, end int) [][]api.CutPart {
	d := dice(seed)
	list := [][]api.CutPart{nil, tableT(), tableU(), heavy()}
	for range many / 4 {
		small := d.table(1+d.below(4), 4, end)
		large := d.table(5+d.below(4), 1, end)
		list = append(list, small, large, d.wrongly(small, 6), d.wrongly(large, 2), d.wild(1+d.below(3), end))
	}
	return list
}

// hasPieces reports whether a part can be cut.
func hasPieces(t []api.CutPart, number int) bool {
	return slices.ContainsFunc(t, func(p api.CutPart) bool { return p.Of == number })
}

// lostOf returns how many pounds are lost of a part.
func lostOf(t []api.CutPart, weights []int, number int) int {
	pounds := weights[number]
	for piece, p := range t {
		if p.Of == number {
			pounds -= weights[piece]
		}
	}
	return pounds
}

// isIn reports whether a number is one of a span.
func isIn(s api.Span, number int) bool { return s.Low <= number && number <= s.High }

// isParting reports whether weights are a parting.
func isParting(t []api.CutPart, weights []int) bool {
	for number, weight := range weights {
		if !isIn(span(0, 30), weight) || hasPieces(t, number) && !isIn(t[number].Waste, lostOf(t, weights, number)) {
			return false
		}
	}
	return true
}

// awayOf returns by how much a weight is away from the words of a part.
func awayOf(p api.CutPart, weight int) int {
	away := 0
	for weight < p.Weight.Low {
		weight++
		away++
	}
	for weight > p.Weight.High {
		weight--
		away++
	}
	return away
}

// changeOf returns the change of a parting.
func changeOf(t []api.CutPart, weights []int) int {
	sum := 0
	for number, weight := range weights {
		sum += awayOf(t[number], weight)
	}
	return sum
}

// partings returns all partings with at most so much change; compared number by number, the first one comes first.
func partings(t []api.CutPart, change int) [][]int {
	var found [][]int
	var longer func(weights []int, left int)
	longer = func(weights []int, left int) {
		number := len(weights)
		if number == len(t) {
			if isParting(t, weights) {
				found = append(found, slices.Clone(weights))
			}
			return
		}
		most := api.MaxCutWeight
		if of := t[number].Of; of != whole { // pieces do not weigh more than the part
			most = lostOf(t[:number], weights, of)
		}
		for weight := max(0, t[number].Weight.Low-left); weight <= min(most, t[number].Weight.High+left); weight++ {
			longer(append(weights, weight), left-awayOf(t[number], weight))
		}
	}
	longer(nil, change)
	return found
}

// truthsOf returns all truths.
func truthsOf(t []api.CutPart) [][]int { return partings(t, 0) }

// hasParting reports whether there is a parting: if each part is as light as it can be, none is too heavy.
func hasParting(t []api.CutPart) bool {
	lightest := make([]int, len(t))
	for number := len(t) - 1; number >= 0; number-- {
		if hasPieces(t, number) {
			lightest[number] += t[number].Waste.Low
		}
		if lightest[number] > api.MaxCutWeight {
			return false
		}
		if of := t[number].Of; of != whole {
			lightest[of] += lightest[number]
		}
	}
	return true
}

// nearest returns all partings with the least change, with one pound more after the other.
func nearest(t []api.CutPart) [][]int {
	for change := 0; ; change++ {
		if found := partings(t, change); len(found) > 0 {
			return found
		}
	}
}

// cutsOf returns all cuts in their order.
func cutsOf(t []api.CutPart) [][]int {
	var all [][]int
	for bits := range 1 << len(t) {
		var list []int
		is := true
		for number, p := range t {
			if bits>>number&1 == 1 {
				is = is && hasPieces(t, number) && (p.Of == whole || slices.Contains(list, p.Of))
				list = append(list, number)
			}
		}
		if is {
			all = append(all, list)
		}
	}
	slices.SortFunc(all, func(a, b []int) int { return cmp.Or(cmp.Compare(len(a), len(b)), slices.Compare(a, b)) })
	return all
}

// priceOf returns the price of a cut in a truth.
func priceOf(t []api.CutPart, cut, weights []int) int {
	sum := 0
	for number, p := range t {
		if (p.Of == whole || slices.Contains(cut, p.Of)) && !slices.Contains(cut, number) {
			sum += weights[number] * p.Pence
		}
	}
	return sum
}

// ends returns the least and the greatest of what something is in truths.
func ends(truths [][]int, is func(weights []int) int) api.Span {
	s := span(is(truths[0]), is(truths[0]))
	for _, weights := range truths {
		s = span(min(s.Low, is(weights)), max(s.High, is(weights)))
	}
	return s
}

// bestOf returns the first cut whose least price is the greatest, this price, and as how many others it is as good.
func bestOf(t []api.CutPart, truths [][]int) (best []int, greatest, ties int) {
	greatest = -1
	for _, list := range cutsOf(t) {
		low := ends(truths, func(weights []int) int { return priceOf(t, list, weights) }).Low
		switch {
		case low > greatest:
			best, greatest, ties = list, low, 0
		case low == greatest:
			ties++
		}
	}
	return best, greatest, ties
}

// dearer returns a table in which a penny more is paid for a pound of a part.
func dearer(t []api.CutPart, number int) []api.CutPart {
	t = slices.Clone(t)
	t[number].Pence++
	return t
}

// P7.2: of all lists of weights around the words.
func TestAllTruths(t *testing.T) {
	d := dice(1)
	var found [2]int
	for _, table := range tables(1, 300, 9) {
		for _, weights := range partings(table, 2) {
			is := changeOf(table, weights) == 0
			holds(t, table, is, weights...)
			for number := range weights {
				other := slices.Clone(weights)
				other[number] += 1 - 2*d.below(2)
				is := isParting(table, other) && changeOf(table, other) == 0
				holds(t, table, is, other...)
				if is {
					found[1]++
				} else {
					found[0]++
				}
			}
			if is {
				found[1]++
			}
		}
	}
	if slices.Min(found[:]) < 1000 {
		t.Errorf("too few lists of one kind: %v", found)
	}
}

// withoutTruth checks that there is ErrNone for all that heeds truths.
func withoutTruth(t *testing.T, table []api.CutPart) {
	t.Helper()
	got, e := cuts.Whole(table)
	none(t, table, "Whole", got, e)
	list, e := cuts.Cut(table)
	none(t, table, "Cut", list, e)
	for _, cut := range cutsOf(table) {
		got, e := cuts.Price(table, cut)
		none(t, table, "Price", got, e)
		is, e := cuts.Rank(table, cut, nil)
		none(t, table, "Rank", is, e)
	}
	for number := range table {
		got, e := cuts.Weight(table, number)
		none(t, table, "Weight", got, e)
		pounds, e := cuts.Gain(table, number)
		none(t, table, "Gain", pounds, e)
		if hasPieces(table, number) {
			got, e := cuts.Lost(table, number)
			none(t, table, "Lost", got, e)
		}
	}
}

// P7.3 to P7.5: by all truths.
func TestSpansOfTruths(t *testing.T) {
	narrower, without, some := 0, 0, 0
	for _, table := range tables(2, 1500, 9) {
		all := truthsOf(table)
		if len(all) == 0 {
			withoutTruth(t, table)
			without++
			continue
		}
		if len(all) > 1 {
			some++
		}
		pounds := ends(all, func(weights []int) int { return fishIn(table, weights) })
		fish(t, table, pounds.Low, pounds.High)
		var want []api.Span
		for number, p := range table {
			want = append(want, ends(all, func(weights []int) int { return weights[number] }))
			if want[number] != p.Weight {
				narrower++
			}
			if hasPieces(table, number) {
				s := ends(all, func(weights []int) int { return lostOf(table, weights, number) })
				lost(t, table, number, s.Low, s.High)
			}
		}
		weighs(t, table, want...)
	}
	if narrower < 500 || without < 200 || some < 500 {
		t.Errorf("too few tables of one kind: %d, %d, %d", narrower, without, some)
	}
}

// P7.6 to P7.8: by all partings.
func TestChangesOfPartings(t *testing.T) {
	var found [4]int
	far, several := 0, 0
	for _, table := range tables(3, 4000, 9) {
		if !hasParting(table) {
			continue
		}
		all := nearest(table)
		change := changeOf(table, all[0])
		fix(t, table, change, all[0]...)
		var want []int
		for number, p := range table {
			away := func(weights []int) bool { return !isIn(p.Weight, weights[number]) }
			stays := func(weights []int) bool { return !away(weights) }
			switch {
			case !slices.ContainsFunc(all, stays):
				want = append(want, api.Surely)
			case !slices.ContainsFunc(all, away):
				want = append(want, api.Never)
			default:
				want = append(want, api.Perhaps)
			}
			if change > 0 {
				found[want[number]]++
			}
		}
		changed(t, table, want...)
		if change > 4 {
			far++
		}
		if change > 0 && len(all) > 1 {
			several++
		}
	}
	if slices.Min(found[1:]) < 200 || far < 50 || several < 100 {
		t.Errorf("too few tables of one kind: %v, %d, %d", found, far, several)
	}
}

// P7.6 to P7.8: ErrNone if the lightest parting is too heavy, and only then.
func TestTablesWithoutPartings(t *testing.T) {
	d := dice(6)
	var found [2]int
	for range 2000 {
		table := d.shape(1+d.below(api.MaxCutParts), 9)
		for number := range table {
			table[number].Weight, table[number].Waste = d.around(d.below(31), 9), d.around(d.below(20), 4)
		}
		a := args{}
		for !hasPieces(table, a.part) && a.part < len(table)-1 {
			a.part++
		}
		if hasParting(table) {
			_, e := cuts.Change(table)
			_, f := cuts.Fix(table)
			_, g := cuts.Changed(table, a.part)
			if e != api.OK || f != api.OK || g != api.OK {
				t.Fatalf("%v: Change: %d; Fix: %d; Changed: %d", table, e, f, g)
			}
			found[1]++
			continue
		}
		errors(t, table, a, noParting())
		found[0]++
	}
	if slices.Min(found[:]) < 100 {
		t.Errorf("too few tables of one kind: %v", found)
	}
}

// P7.9 to P7.11: by all cuts in all truths.
func TestPricesOfTruths(t *testing.T) {
	var found [4]int
	gains, parts, others := 0, 0, 0
	for _, end := range []int{1, 5, api.MaxCutPence} {
		for _, table := range tables(4+end, 500, end) {
			all := truthsOf(table)
			if len(all) == 0 {
				continue
			}
			for _, list := range cutsOf(table) {
				s := ends(all, func(weights []int) int { return priceOf(table, list, weights) })
				price(t, table, s.Low, s.High, list...)
			}
			best, greatest, ties := bestOf(table, all)
			cut(t, table, best...)
			found[min(len(best), 3)]++
			if ties > 0 {
				others++
			}
			var want []int
			for number := range table {
				_, more, _ := bestOf(dearer(table, number), all)
				want = append(want, more-greatest)
				if more > greatest {
					gains++
				}
				if low := ends(all, func(weights []int) int { return weights[number] }).Low; more > greatest && more-greatest < low {
					parts++
				}
			}
			gain(t, table, want...)
		}
	}
	if slices.Min(found[:]) < 20 || gains < 1000 || parts < 50 || others < 100 {
		t.Errorf("too few tables of one kind: %v, %d, %d, %d", found, gains, parts, others)
	}
}

// P7.12: by all two cuts in all truths.
func TestRanksOfTruths(t *testing.T) {
	var found [4]int
	over, equal := 0, 0
	for _, end := range []int{1, 5, api.MaxCutPence} {
		for _, table := range tables(5+end, 500, end) {
			all := truthsOf(table)
			if len(all) == 0 {
				continue
			}
			for _, a := range cutsOf(table) {
				for _, b := range cutsOf(table) {
					greater := 0
					for _, weights := range all {
						if priceOf(table, a, weights) > priceOf(table, b, weights) {
							greater++
						} else if priceOf(table, a, weights) == priceOf(table, b, weights) {
							equal++
						}
					}
					want := api.Perhaps
					switch greater {
					case len(all):
						want = api.Surely
					case 0:
						want = api.Never
					}
					rank(t, table, a, b, want)
					found[want]++
					first := ends(all, func(weights []int) int { return priceOf(table, a, weights) })
					if want == api.Surely && isIn(first, ends(all, func(weights []int) int { return priceOf(table, b, weights) }).High) {
						over++
					}
				}
			}
		}
	}
	if slices.Min(found[1:]) < 500 || over < 100 || equal < 1000 {
		t.Errorf("too few cuts of one kind: %v, %d, %d", found, over, equal)
	}
}
