package shares

import (
	"slices"

	"almadraba/api"
)

// agrees reports whether the custom agrees with payments.
func (c custom) agrees(payments ...api.SharePay) bool {
	return each(payments, func(p api.SharePay) bool { return c.get(p.Node, p.Pence) == p.Coins })
}

// wrong returns the payments with which the custom does not agree, ascending.
func (c custom) wrong(old []api.SharePay) []int {
	var list []int
	for number, payment := range old {
		if !c.agrees(payment) {
			list = append(list, number)
		}
	}
	return list
}

// with returns the custom with another Weight of a node.
func (c custom) with(node, weight int) custom {
	c.Nodes = slices.Clone(c.Nodes)
	c.Nodes[node].Weight = weight
	return c
}

// weights returns the Weights of a node with which the custom agrees with all payments, ascending.
func (c custom) weights(node int, old []api.SharePay) []int {
	var list []int
	for weight := range api.MaxShareWeight + 1 {
		if c.with(node, weight).agrees(old...) {
			list = append(list, weight)
		}
	}
	return list
}

// apart reports whether a node gets another number of so many pence with each of some Weights.
func (c custom) apart(node, pence int, weights []int) bool {
	gets := map[int]bool{}
	for _, weight := range weights {
		gets[c.with(node, weight).get(node, pence)] = true
	}
	return len(gets) == len(weights)
}
