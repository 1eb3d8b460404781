package cuts

import (
	"slices"

	"almadraba/api"
)

// table is a table that is at work.
type table []api.CutPart

// canCut reports whether a part can be cut.
func (t table) canCut(part int) bool {
	return slices.ContainsFunc(t, func(p api.CutPart) bool { return p.Of == part })
}

// there reports whether a part is a whole fish, or a piece of a part that is cut.
func (t table) there(part int, cut []int) bool {
	of := t[part].Of
	return of == api.CutNone || slices.Contains(cut, of)
}

// fits reports whether a part can be cut behind a cut.
func (t table) fits(part int, cut []int) bool {
	return t.canCut(part) && t.there(part, cut)
}

// waste returns between how many pounds of a part are in none of its pieces; of one without pieces, that can be as many as
// it weighs.
func (t table) waste(part int) api.Span {
	if t.canCut(part) {
		return t[part].Waste
	}
	return api.Span{High: api.MaxCutWeight}
}

// away returns by how many pounds a weight is away from the words of a part.
func (t table) away(part, weight int) int {
	s := t[part].Weight
	return max(s.Low-weight, weight-s.High, 0)
}
