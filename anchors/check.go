package anchors

import "almadraba/api"

// valid reports whether a net is valid.
func valid(n api.AnchorNet) bool {
	isGrip := func(grip api.Span) bool { return isSpan(grip, api.MaxAnchorGrip) }
	isAnchor := func(a api.Anchor) bool {
		return upTo(api.MaxAnchorWeight, a.Weight) && upTo(len(n.Grips)-1, a.Bottom)
	}
	return isSpan(n.Wind, api.MaxAnchorForce) && isSpan(n.Current, api.MaxAnchorForce) &&
		len(n.Grips) <= api.MaxAnchorBottoms && all(n.Grips, isGrip) &&
		len(n.Anchors) <= api.MaxAnchors && all(n.Anchors, isAnchor) &&
		len(n.Walls) == max(0, len(n.Anchors)-1) && all(n.Walls, isWall)
}

// isWall reports whether a wall is one as those of a valid net are.
func isWall(w api.AnchorWall) bool {
	return upTo(api.MaxAnchorPart, w.Sail, w.Drag, w.Lean) && upTo(api.MaxAnchorCorks, w.Corks, w.Stones)
}

// isSpan reports whether a span has numbers from 0 to an end, one at least.
func isSpan(s api.Span, end int) bool {
	return upTo(end, s.Low, s.High) && s.Low <= s.High
}

// isTruth reports whether a truth is one of a net.
func isTruth(n api.AnchorNet, t api.AnchorTruth) bool {
	if !within(n.Wind, t.Wind) || !within(n.Current, t.Current) || len(t.Grips) != len(n.Grips) {
		return false
	}
	for bottom, grip := range t.Grips {
		if !within(n.Grips[bottom], grip) {
			return false
		}
	}
	return true
}

// hasAnchor reports whether a net has an anchor.
func hasAnchor(n api.AnchorNet, anchor int) bool {
	return upTo(len(n.Anchors)-1, anchor)
}

// hasWall reports whether a net has a wall.
func hasWall(n api.AnchorNet, wall int) bool {
	return upTo(len(n.Walls)-1, wall)
}

// within reports whether a number is one of a span.
func within(s api.Span, number int) bool {
	return s.Low <= number && number <= s.High
}

// upTo reports whether all numbers are from 0 to an end.
func upTo(end int, numbers ...int) bool {
	return all(numbers, func(n int) bool { return 0 <= n && n <= end })
}

// all reports whether something is so of all elements of a list.
func all[T any](list []T, is func(T) bool) bool {
	for _, element := range list {
		if !is(element) {
			return false
		}
	}
	return true
}
