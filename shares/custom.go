package shares

import (
	"maps"
	"slices"

	"almadraba/api"
)

// custom is a valid custom at work.
type custom struct {
	api.ShareCustom
}

// open returns a valid custom at work.
func open(c api.ShareCustom) custom {
	return custom{c}
}

// below returns a function that yields the nodes below a node, ascending.
func (c custom) below(node int) func(yield func(int) bool) {
	return func(yield func(int) bool) {
		for other, n := range c.Nodes {
			if n.Up == node && !yield(other) {
				return
			}
		}
	}
}

// sum returns the Weights of all nodes below a node together.
func (c custom) sum(node int) int {
	sum := 0
	for other := range c.below(node) {
		sum += c.Nodes[other].Weight
	}
	return sum
}

// split returns what each node below a node gets, and what the node keeps, if it gets so many pence.
func (c custom) split(node, pence int) (gets map[int]int, keeps int) {
	gets = map[int]int{}
	for other := range c.below(node) {
		gets[other] = min(c.Nodes[other].Fixed, pence)
		pence -= gets[other]
	}
	sum := c.sum(node)
	if sum == 0 {
		return gets, pence
	}
	left := pence
	for other := range c.below(node) {
		part := pence * c.Nodes[other].Weight / sum
		gets[other] += part
		left -= part
	}
	for other := range c.below(node) {
		if c.Nodes[other].Weight > 0 && left > 0 {
			gets[other]++
			left--
		}
	}
	return gets, 0
}

// divide returns what each node gets, and what it keeps, of so many pence.
func (c custom) divide(pence int) (gets, keeps map[int]int) {
	gets, keeps = map[int]int{0: pence}, map[int]int{}
	for node := range c.Nodes { // each is behind the one above it, which has given it what it gets by then
		below, rest := c.split(node, gets[node])
		maps.Copy(gets, below)
		keeps[node] = rest
	}
	return gets, keeps
}

// get returns what a node gets of so many pence.
func (c custom) get(node, pence int) int {
	gets, _ := c.divide(pence)
	return gets[node]
}

// isEnough reports whether each node keeps at least as many of so many pence as a list says.
func (c custom) isEnough(pence int, coins []int) bool {
	_, keeps := c.divide(pence)
	for node, least := range coins {
		if keeps[node] < least {
			return false
		}
	}
	return true
}

// part returns which part of a great sum a node gets.
func (c custom) part(node int) api.Ratio {
	if node == 0 {
		return api.Ratio{Num: 1, Den: 1}
	}
	up := c.Nodes[node].Up
	sum := c.sum(up)
	if sum == 0 {
		return api.Ratio{Num: 0, Den: 1}
	}
	of := c.part(up)
	return lowest(of.Num*c.Nodes[node].Weight, of.Den*sum)
}

// lowest returns a fraction in lowest terms.
func lowest(num, den int) api.Ratio {
	divisor, rest := den, num
	for rest > 0 {
		divisor, rest = rest, divisor%rest
	}
	return api.Ratio{Num: num / divisor, Den: den / divisor}
}

// listed returns what there is of some nodes, the least node first.
func listed(pence map[int]int) []int {
	var list []int
	for _, node := range slices.Sorted(maps.Keys(pence)) {
		list = append(list, pence[node])
	}
	return list
}
