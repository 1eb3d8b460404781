package headman

import (
	"almadraba/api"
	"almadraba/mesh"
)

// changes returns the words that change a town.
func changes() []word {
	return []word{
		{name: "wind", many: 2, change: wind},
		{name: "current", many: 2, change: current},
		{name: "heavy", many: 2, change: heavy},
		{name: "torn", many: 4, change: torn},
		{name: "rope", many: 2, change: rope},
		{name: "menders", many: 1, change: menders},
		{name: "mended", change: mended},
		{name: "part", many: 2, change: part},
		{name: "barrel", many: 1, change: barrel},
	}
}

// Each change returns the town with it, valid or not, and whether it can be.

func wind(t api.HeadTown, n []int) (api.HeadTown, bool) {
	t.Net.Wind = api.Span{Low: n[0], High: n[1]}
	return t, true
}

func current(t api.HeadTown, n []int) (api.HeadTown, bool) {
	t.Net.Current = api.Span{Low: n[0], High: n[1]}
	return t, true
}

func heavy(t api.HeadTown, n []int) (api.HeadTown, bool) {
	anchor := n[0]
	if !within(anchor, 0, len(t.Net.Anchors)-1) {
		return t, false
	}
	heavier := t.Net.Anchors[anchor]
	heavier.Weight = n[1]
	t.Net.Anchors = replaced(t.Net.Anchors, anchor, heavier)
	return t, true
}

func torn(t api.HeadTown, n []int) (api.HeadTown, bool) {
	t.Torn.Holes = longer(t.Torn.Holes, api.MeshHole{From: n[0], Rate: api.Span{Low: n[1], High: n[2]}, Hours: n[3]})
	return t, true
}

func rope(t api.HeadTown, n []int) (api.HeadTown, bool) {
	t.Torn.Pairs = longer(t.Torn.Pairs, api.MeshPair{A: n[0], B: n[1]})
	return t, true
}

func menders(t api.HeadTown, n []int) (api.HeadTown, bool) {
	t.Torn.Menders = n[0]
	return t, true
}

func mended(t api.HeadTown, _ []int) (api.HeadTown, bool) {
	order, e := mesh.Order(t.Torn)
	if e != api.OK || len(order) == 0 {
		return t, false
	}
	hole := order[0]
	t.Torn.Holes = without(t.Torn.Holes, hole)
	t.Torn.Pairs = pairsWithout(t.Torn.Pairs, hole)
	return t, true
}

// pairsWithout returns the pairs that do not have a hole, with the numbers that the holes have when this one is gone.
func pairsWithout(pairs []api.MeshPair, hole int) []api.MeshPair {
	number := func(other int) int {
		if other > hole {
			return other - 1
		}
		return other
	}
	var left []api.MeshPair
	for _, p := range pairs {
		if p.A != hole && p.B != hole {
			left = append(left, api.MeshPair{A: number(p.A), B: number(p.B)})
		}
	}
	return left
}

func part(t api.HeadTown, n []int) (api.HeadTown, bool) {
	t.House.Parts = longer(t.House.Parts, api.SaltPart{Kind: n[0], Pounds: n[1]})
	return t, true
}

func barrel(t api.HeadTown, n []int) (api.HeadTown, bool) {
	t.House.Barrels = longer(t.House.Barrels, n[0])
	return t, true
}
