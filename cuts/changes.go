package cuts

import "almadraba/api"

// change returns the least change of a parting; cannot if there is none.
func (t table) change() int {
	return t.least(t.away)
}

// fix returns the least list of weights of a parting with the least change, if there is a parting.
func (t table) fix() []int {
	least := t.change()
	var list []int
	for last := range t {
		list = append(list, 0)
		for t.least(t.begins(list)) > least {
			list[last]++
		}
	}
	return list
}

// begins returns what parts cost by how far they are away, if the weights of the first ones are those of a list.
func (t table) begins(list []int) costing {
	return func(part, weight int) int {
		if part < len(list) && list[part] != weight {
			return cannot
		}
		return t.away(part, weight)
	}
}

// changed returns what is known of whether a part is changed with the least change, if there is a parting.
func (t table) changed(part int) int {
	least := t.change()
	switch {
	case t.least(t.keeps(part, true)) > least:
		return api.Surely
	case t.least(t.keeps(part, false)) > least:
		return api.Never
	}
	return api.Perhaps
}

// keeps returns what parts cost by how far they are away, if one of them is as its words say, or if it is not.
func (t table) keeps(kept int, as bool) costing {
	return func(part, weight int) int {
		away := t.away(part, weight)
		if part == kept && as != (away == 0) {
			return cannot
		}
		return away
	}
}
