package counts

import "almadraba/api"

// A sum is the number of fish in a chamber and in all behind it, at a time. All that is known of a trap bounds
// by how much one sum exceeds another one, so that shortest paths say all that truths can be, without a search.

// nothing is the sum that is always 0: there is no chamber behind the last one.
const nothing = 0

// sums is how many sums a trap can have.
const sums = 1 + api.MaxCountTimes*api.MaxCountChambers

// bounds has, for each two sums, by how much the first one exceeds the second one at most.
type bounds [sums][sums]int

// widest returns the bounds of which only is known that no sum is below 0, and none above MaxCountFish.
func widest() bounds {
	var b bounds
	for i := range b {
		for j := range b[i] {
			if i != j && i != nothing {
				b[i][j] = api.MaxCountFish
			}
		}
	}
	return b
}

// atMost takes in that the sum i exceeds the sum j by at most so many, and reports whether this can be.
func (b *bounds) atMost(i, j, most int) bool {
	if b[j][i]+most < 0 {
		return false
	}
	if b[i][j] <= most {
		return true
	}
	for k := range b {
		for l := range b[k] {
			b[k][l] = min(b[k][l], b[k][i]+most+b[j][l])
		}
	}
	return true
}

// within takes in between what the sum i exceeds the sum j, and reports whether this can be.
func (b *bounds) within(i, j int, s api.Span) bool {
	return b.atMost(i, j, s.High) && b.atMost(j, i, -s.Low)
}

// between returns between what the sum i exceeds the sum j; each number between is so in some truth.
func (b *bounds) between(i, j int) api.Span {
	return api.Span{Low: -b[j][i], High: b[i][j]}
}
