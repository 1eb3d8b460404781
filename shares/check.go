package shares

import (
	"slices"

	"almadraba/api"
)

// valid reports whether a custom is valid.
func valid(c api.ShareCustom) bool {
	return within(len(c.Nodes), 1, api.MaxShareNodes) && isTree(c) && each(c.Nodes, func(n api.ShareNode) bool {
		return within(n.Weight, 0, api.MaxShareWeight) && within(n.Fixed, 0, api.MaxShareFixed)
	})
}

// isTree reports whether the node 0 is at the top, and each other one below a lesser one.
func isTree(c api.ShareCustom) bool {
	for node, n := range c.Nodes {
		if node == 0 && n.Up != api.ShareTop || node > 0 && !within(n.Up, 0, node-1) {
			return false
		}
	}
	return true
}

// fit returns ErrShare unless a custom is valid, then ErrMany if there are too many payments, then ErrArg unless all else is as it must be, and they are, too.
func fit(c api.ShareCustom, allElse bool, old ...api.SharePay) api.Errno {
	isPayment := func(p api.SharePay) bool { return hasNode(c, p.Node) && isPence(p.Pence) && isPence(p.Coins) }
	switch {
	case !valid(c):
		return api.ErrShare
	case len(old) > api.MaxSharePays:
		return api.ErrMany
	case !allElse || !each(old, isPayment):
		return api.ErrArg
	}
	return api.OK
}

// hasNode reports whether a custom has a node.
func hasNode(c api.ShareCustom, node int) bool {
	return within(node, 0, len(c.Nodes)-1)
}

// isPence reports whether there can be so many pence or coins.
func isPence(number int) bool {
	return within(number, 0, api.MaxSharePence)
}

// within reports whether a number is from one to another one.
func within(number, low, high int) bool {
	return low <= number && number <= high
}

// each reports whether something is so of each element of a list.
func each[T any](list []T, is func(T) bool) bool {
	return !slices.ContainsFunc(list, func(element T) bool { return !is(element) })
}
